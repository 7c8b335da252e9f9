package notary

import (
	"iter"
	"maps"
	"slices"

	"notary/api"
	"notary/trees"
	"notary/wire"
)

// Store keeps a log and a table.
type Store struct {
	log   []int
	table map[int]int
}

// New makes an empty store (P6).
func New() *Store { return &Store{table: map[int]int{}} }

// Append lays a value behind the log (P7).
func (s *Store) Append(v int) api.Errno {
	if !isValue(v) {
		return api.ErrValue
	}
	if len(s.log) == api.MaxEntries {
		return api.ErrFull
	}
	if sum(slices.Values(s.log))+v > api.MaxSum {
		return api.ErrSum
	}
	s.log = append(s.log, v)
	return api.OK
}

// Set lays a value under a key of the table (P8).
func (s *Store) Set(key int, v int) api.Errno {
	if key < 0 || key >= api.Keys {
		return api.ErrKey
	}
	if !isValue(v) {
		return api.ErrValue
	}
	if sum(maps.Values(s.table))-s.table[key]+v > api.MaxSum {
		return api.ErrSum
	}
	s.table[key] = v
	return api.OK
}

// Delete takes a key out of the table (P8).
func (s *Store) Delete(key int) api.Errno {
	if _, there := s.table[key]; !there {
		return api.ErrKey
	}
	delete(s.table, key)
	return api.OK
}

// Head tells the head of the log as it was at a size, or of the table (P9).
func (s *Store) Head(tree int, size int) (api.Head, api.Errno) {
	now, of, _ := s.look(tree)
	if !isSize(tree, size) || size > now {
		return api.Head{}, api.ErrRange
	}
	return trees.Head(size, of), api.OK
}

// Ask tells what the values of a range come to, and the proof (P10).
func (s *Store) Ask(tree int, from int, to int) (api.Fold, string, api.Errno) {
	size, of, known := s.look(tree)
	if !known || !isRange(from, to, size) {
		return api.Fold{}, "", api.ErrRange
	}
	fold, nodes := trees.Prove(size, trees.Part{From: from, To: to}, of)
	// A cover has few parts in trees this small, and the limits keep a store's numbers small: nothing is refused here.
	proof, _ := wire.WriteProof(nodes)
	return fold, proof, api.OK
}

// Grown tells the proof that the log at one size begins the log as it is (P11).
func (s *Store) Grown(size int) (string, api.Errno) {
	if size < 1 {
		return "", api.ErrRange
	}
	_, proof, e := s.Ask(api.Log, 0, size)
	return proof, e
}

// look tells the size of a tree and what its parts come to, if there is such a tree.
func (s *Store) look(tree int) (size int, of trees.Source, known bool) {
	switch tree {
	case api.Log:
		return len(s.log), trees.OfLog(s.log), true
	case api.Table:
		return api.Keys, trees.OfTable(s.table), true
	}
	return 0, nil, false
}

func isValue(v int) bool { return 0 <= v && v <= api.MaxValue }

func sum(values iter.Seq[int]) int {
	n := 0
	for v := range values {
		n += v
	}
	return n
}
