package notary_test

import (
	"maps"
	"math"
	"slices"
	"testing"

	"notary/api"
	"notary/notary"
)

// model says what a store must hold. Its trees are worked out in another way than the program's: from the entries upwards.
type model struct {
	log   []int
	table map[int]int
}

// places are the nodes of a tree's entries or keys.
func (m *model) places(tree int) []api.Node {
	var l []api.Node
	if tree == api.Log {
		for _, v := range m.log {
			l = append(l, node1(v, "L"+numberBytes(v)))
		}
		return l
	}
	for k := range api.Keys {
		if v, ok := m.table[k]; ok {
			l = append(l, node1(v, "T"+numberBytes(k)+numberBytes(v)))
		} else {
			l = append(l, emptyNode())
		}
	}
	return l
}

// fold is what the values of a range come to, one by one.
func (m *model) fold(tree int, from int, to int) api.Fold {
	var l []int
	for i := from; i < to; i++ {
		if tree == api.Log {
			l = append(l, m.log[i])
		} else if v, ok := m.table[i]; ok {
			l = append(l, v)
		}
	}
	if len(l) == 0 {
		return api.Fold{}
	}
	f := api.Fold{Count: len(l), Min: slices.Min(l), Max: slices.Max(l)}
	for _, v := range l {
		f.Sum += v
	}
	return f
}

func numberBytes(n int) string {
	if n < 128 {
		return string([]byte{byte(n)})
	}
	return string([]byte{byte(n%128) + 128}) + numberBytes(n/128)
}

func digestOf(s string) api.Digest {
	n := uint64(1)
	for _, b := range []byte(s) {
		n = (263*n + uint64(b) + 1) % 65521
	}
	return api.Digest{byte(n / 256), byte(n % 256)}
}

func node1(v int, text string) api.Node {
	return api.Node{Fold: api.Fold{Count: 1, Sum: v, Min: v, Max: v}, Hash: digestOf(text)}
}

func textOf(n api.Node) string {
	f := n.Fold
	return numberBytes(f.Count) + numberBytes(f.Sum) + numberBytes(f.Min) + numberBytes(f.Max) + string(n.Hash[:])
}

// togetherTwo lays the document's words out by cases: a wrong proof may have sums where it counts nothing.
func togetherTwo(a, b api.Fold) api.Fold {
	least, most := a.Min, a.Max
	switch {
	case a.Count == 0:
		least, most = b.Min, b.Max
	case b.Count > 0:
		least, most = min(least, b.Min), max(most, b.Max)
	}
	return api.Fold{Count: a.Count + b.Count, Sum: a.Sum + b.Sum, Min: least, Max: most}
}

func aboveTwo(l, r api.Node) api.Node {
	if l == emptyNode() && r == emptyNode() {
		return emptyNode()
	}
	return api.Node{Fold: togetherTwo(l.Fold, r.Fold), Hash: digestOf("I" + textOf(l) + textOf(r))}
}

// treeOf puts nodes together from the left as they come, two whole ones of one size at a time, and what is left over at last from the right.
func treeOf(places []api.Node) api.Node {
	if len(places) == 0 {
		return emptyNode()
	}
	var done []api.Node
	for i, n := range places {
		for c := i + 1; c%2 == 0; c /= 2 {
			n = aboveTwo(done[len(done)-1], n)
			done = done[:len(done)-1]
		}
		done = append(done, n)
	}
	n := done[len(done)-1]
	for i := len(done) - 2; i >= 0; i-- {
		n = aboveTwo(done[i], n)
	}
	return n
}

// coverOf tells the parts of a cover: of all the parts of the tree, those that the range does not cut and that lie in no greater one of that kind.
func coverOf(size, from, to int) [][2]int {
	cut := func(a, b int) bool {
		inside := 0
		for i := a; i < b; i++ {
			if from <= i && i < to {
				inside++
			}
		}
		return inside > 0 && inside < b-a
	}
	var l [][2]int
	for _, p := range partsOf(0, size) { // each part stands behind those that it lies in
		within := len(l) > 0 && l[len(l)-1][0] <= p[0] && p[1] <= l[len(l)-1][1]
		if !cut(p[0], p[1]) && !within {
			l = append(l, p)
		}
	}
	return l
}

// partsOf tells all parts of a tree, the greater ones first.
func partsOf(a, b int) [][2]int {
	l := [][2]int{{a, b}}
	if b-a < 2 {
		return l
	}
	k := 1
	for 2*k < b-a {
		k *= 2
	}
	return append(append(l, partsOf(a, a+k)...), partsOf(a+k, b)...)
}

// proofNodes are the nodes of a cover's parts.
func (m *model) proofNodes(tree int, from int, to int) []api.Node {
	places := m.places(tree)
	var l []api.Node
	for _, p := range coverOf(len(places), from, to) {
		l = append(l, treeOf(places[p[0]:p[1]]))
	}
	return l
}

func (m *model) proof(tree int, from int, to int) string {
	return proofOf(m.proofNodes(tree, from, to)...)
}

// proofOf is the bytes of the proof that has these nodes.
func proofOf(nodes ...api.Node) string {
	s := ""
	for _, n := range nodes {
		if n == emptyNode() {
			s += "\x00"
		} else {
			s += "\x01" + textOf(n)
		}
	}
	return s
}

func (m *model) head(tree int, size int) api.Head {
	return headOf(size, treeOf(m.places(tree)[:size]))
}

func headOf(size int, whole api.Node) api.Head {
	return api.Head{Size: size, Root: digestOf("H" + numberBytes(size) + textOf(whole))}
}

// storeOf makes the store that the model tells of.
func (m *model) storeOf(t *testing.T) *notary.Store {
	t.Helper()
	s := notary.New()
	for _, v := range m.log {
		wantOK(t, "Append", s.Append(v))
	}
	for _, k := range slices.Sorted(maps.Keys(m.table)) {
		wantOK(t, "Set", s.Set(k, m.table[k]))
	}
	return s
}

func wantOK(t *testing.T, call string, e api.Errno) {
	t.Helper()
	wantError(t, call, e, api.OK)
}

func wantError(t *testing.T, call string, got api.Errno, want api.Errno) {
	t.Helper()
	if got != want {
		t.Errorf("%s: error %d, want %d", call, got, want)
	}
}

// wantHeads asks for every head that the model has, and for those just beyond.
func wantHeads(t *testing.T, s *notary.Store, m *model) {
	t.Helper()
	for size := range len(m.log) + 1 {
		if h, e := s.Head(api.Log, size); h != m.head(api.Log, size) || e != api.OK {
			t.Errorf("Head(Log, %d) = %v, %d, want %v", size, h, e, m.head(api.Log, size))
		}
	}
	if h, e := s.Head(api.Log, len(m.log)+1); h != (api.Head{}) || e != api.ErrRange {
		t.Errorf("Head(Log, %d) = %v, %d, want error %d", len(m.log)+1, h, e, api.ErrRange)
	}
	if h, e := s.Head(api.Table, api.Keys); h != m.head(api.Table, api.Keys) || e != api.OK {
		t.Errorf("Head(Table, 32) = %v, %d, want %v", h, e, m.head(api.Table, api.Keys))
	}
}

// wantHolds asks a store for everything that shows what it holds.
func wantHolds(t *testing.T, s *notary.Store, m *model) {
	t.Helper()
	wantHeads(t, s, m)
	for i := range len(m.log) {
		wantAsk(t, s, m, api.Log, i, i+1)
	}
	for k := range api.Keys {
		wantAsk(t, s, m, api.Table, k, k+1)
	}
}

func wantAsk(t *testing.T, s *notary.Store, m *model, tree int, from int, to int) {
	t.Helper()
	fold, proof := m.fold(tree, from, to), m.proof(tree, from, to)
	if f, p, e := s.Ask(tree, from, to); f != fold || p != proof || e != api.OK {
		t.Errorf("Ask(%d, %d, %d) = %v, %q, %d, want %v, %q", tree, from, to, f, p, e, fold, proof)
	}
}

// squares is a log of this many entries, no two of them alike.
func squares(size int) *model {
	m := &model{}
	for i := range size {
		m.log = append(m.log, i*i)
	}
	return m
}

// sizes has the powers of 2, those one less and one more, and some between.
var sizes = []int{0, 1, 2, 3, 4, 5, 6, 7, 8, 9, 11, 13, 15, 16, 17, 21, 31, 32, 33, 42, 63, 64}

// tables has tables with no key, the edges of keys and values, some and all keys.
var tables = []map[int]int{
	{},
	{0: 0},
	{0: api.MaxValue},
	{31: 0},
	{31: api.MaxValue},
	{0: 0, 31: 7},
	{5: 300},
	{5: 300, 6: 0},
	{4: 128, 5: 128},
	{15: 1, 16: 2},
	{3: 16384, 9: 0, 10: 127, 17: 500000, 30: 1},
	fullTable(),
}

func fullTable() map[int]int {
	m := map[int]int{}
	for k := range api.Keys {
		m[k] = (k * 7 % 32) * 5000
	}
	return m
}

// noTrees are numbers of no tree.
var noTrees = []int{-1, 2, 3, math.MinInt, math.MaxInt}
