package notary

import (
	"notary/api"
	"notary/trees"
	"notary/wire"
)

// Check tells whether a proof shows that the values of a range come to this (P12).
func Check(tree int, h api.Head, from int, to int, claim api.Fold, proof string) api.Errno {
	if !isSize(tree, h.Size) || !isRange(from, to, h.Size) {
		return api.ErrRange
	}
	r := trees.Part{From: from, To: to}
	of, e := readTree(h.Size, r, proof)
	if e != api.OK {
		return e
	}
	if trees.Head(h.Size, of).Root != h.Root {
		return api.ErrRoot
	}
	if fold, _ := trees.Prove(h.Size, r, of); fold != claim {
		return api.ErrClaim
	}
	return api.OK
}

// CheckGrown tells whether a proof shows that a log begins another (P13).
func CheckGrown(old api.Head, now api.Head, proof string) api.Errno {
	if old.Size < 1 || old.Size > now.Size || now.Size > api.MaxEntries {
		return api.ErrRange
	}
	of, e := readTree(now.Size, trees.Part{From: 0, To: old.Size}, proof)
	if e != api.OK {
		return e
	}
	// The parts of the older log that the cover does not have are made of parts that it has: the proof tells both heads.
	if trees.Head(now.Size, of).Root != now.Root || trees.Head(old.Size, of).Root != old.Root {
		return api.ErrRoot
	}
	return api.OK
}

// readTree tells what the parts of a tree of this size come to, by a proof for the range r.
func readTree(size int, r trees.Part, proof string) (trees.Source, api.Errno) {
	nodes, e := wire.ReadProof(proof)
	if e != api.OK {
		return nil, e
	}
	of, fits := trees.OfProof(size, r, nodes)
	if !fits {
		return nil, api.ErrCount
	}
	// On the way up numbers are added, none is taken away: if one is too great anywhere, one of the whole is.
	if !wire.MayBe(trees.Node(trees.Part{From: 0, To: size}, of)) {
		return nil, api.ErrNode
	}
	return of, api.OK
}

// isSize tells whether there is such a tree, and whether it may have this size.
func isSize(tree int, size int) bool {
	switch tree {
	case api.Log:
		return 0 <= size && size <= api.MaxEntries
	case api.Table:
		return size == api.Keys
	}
	return false
}

func isRange(from int, to int, size int) bool {
	return 0 <= from && from <= to && to <= size
}
