package notary

import (
	"slices"

	"notary/api"
	"notary/trees"
)

// Extract tells, of a wrong answer that Check takes, two texts with one digest (P14).
func (s *Store) Extract(tree int, from int, to int, claim api.Fold, proof string) (string, string, api.Errno) {
	size, kept, known := s.look(tree)
	if !known {
		return "", "", api.ErrRange
	}
	if e := Check(tree, trees.Head(size, kept), from, to, claim, proof); e != api.OK {
		return "", "", e
	}
	r := trees.Part{From: from, To: to}
	if fold, _ := trees.Prove(size, r, kept); fold == claim {
		return "", "", api.ErrTrue
	}
	// Check has taken the proof, so it can be read. And as the claim is wrong, a node of it is: there is a clash above that.
	told, _ := readTree(size, r, proof)
	first, second, _ := trees.Clash(size, told, kept)
	return first, second, api.OK
}

// ExtractGrown tells, of a log that does not begin this one though CheckGrown takes a proof of it, two texts with one digest (P15).
func (s *Store) ExtractGrown(old []int, proof string) (string, string, api.Errno) {
	size, now := len(old), len(s.log)
	if size < 1 || size > now || !areValues(old) {
		return "", "", api.ErrRange
	}
	older, kept := trees.OfLog(old), trees.OfLog(s.log)
	if e := CheckGrown(trees.Head(size, older), trees.Head(now, kept), proof); e != api.OK {
		return "", "", e
	}
	if slices.Equal(old, s.log[:size]) {
		return "", "", api.ErrTrue
	}
	told, _ := readTree(now, trees.Part{From: 0, To: size}, proof)
	first, second, found := trees.Clash(now, told, kept)
	if !found {
		// The proof is the log's own, so the head that it tells for the beginning is the log's, and old has that one too.
		first, second, _ = trees.Clash(size, older, kept)
	}
	return first, second, api.OK
}

func areValues(l []int) bool {
	for _, v := range l {
		if !isValue(v) {
			return false
		}
	}
	return true
}
