package notary_test

import (
	"math"
	"math/rand/v2"
	"slices"
	"strings"
	"testing"

	"notary/api"
	"notary/notary"
)

// The digests and texts here were worked out apart from this program. Where the cover is the whole, or the head's texts are alike, there is one clash only.
func TestExtract(t *testing.T) {
	honest := "H\x01\x01\x05\x05\x05\x5d\x61"
	for sum, hash := range map[int]string{6: "\x42\x39", 7: "\x27\x11", 8: "\x0b\xf0", 9: "\xe9\xea"} {
		s := (&model{log: []int{5}}).storeOf(t)
		n := "\x01" + numberBytes(sum) + "\x05\x05" + hash
		first, second, e := s.Extract(api.Log, 0, 1, api.Fold{Count: 1, Sum: sum, Min: 5, Max: 5}, "\x01"+n)
		if first != "H\x01"+n || second != honest || e != api.OK {
			t.Errorf("Extract of the sum %d = %q, %q, %d", sum, first, second, e)
		}
	}
	for most, hash := range map[int]string{5: "\x50\x1e", 6: "\x42\x40", 7: "\x34\x62", 11: "\xf6\x05"} {
		n := "\x00\x00\x05" + numberBytes(most) + hash
		first, second, e := notary.New().Extract(api.Table, 0, 16, api.Fold{Min: 5, Max: most}, "\x01"+n+"\x00")
		if first != "I"+n+"\x00\x00\x00\x00\x01\x4d" || second != "E" || e != api.OK {
			t.Errorf("Extract of no keys, the greatest %d = %q, %q, %d", most, first, second, e)
		}
	}
}

// A wrong node for the whole of a tree has but the head above it.
func TestExtractWhole(t *testing.T) {
	for size := 1; size <= api.MaxEntries; size++ {
		m := squares(size)
		m.table = map[int]int{size % 32: size, 0: 9}
		s := m.storeOf(t)
		for tree, end := range []int{size, api.Keys} {
			forgedSome := false
			for d := 1; d < 5; d++ {
				nodes := m.proofNodes(tree, 0, end)
				nodes[0].Fold.Max += d
				if !forgeHead(end, 0, end, nodes, 0, m.head(tree, end).Root) {
					continue
				}
				forgedSome = true
				wantError(t, "Extract", m.extract(t, s, forged(tree, end, 0, end, nodes...)), api.OK)
				// of nothing the claim is right, whatever the proof says of the rest
				wantError(t, "Extract", m.extract(t, s, forged(tree, end, 1, 1, nodes...)), api.ErrTrue)
			}
			if !forgedSome {
				t.Errorf("no node of the tree %d of %d was forged: the test is too weak", tree, end)
			}
		}
		wantHolds(t, s, m)
	}
}

// changedNodes tells nodes that differ from those of a proof at the place i, so that what i and j come to may be the same all the same.
func changedNodes(nodes []api.Node, i, j int) [][]api.Node {
	var l [][]api.Node
	for _, d := range []int{1, -1, 2, -2} {
		other := slices.Clone(nodes)
		other[i].Fold.Sum += d
		other[j].Fold.Sum -= d
		if other[i].Fold.Sum >= 0 && other[j].Fold.Sum >= 0 {
			l = append(l, other)
		}
	}
	for d := 1; d < 5; d++ { // where nothing is counted, the least and the greatest may be lost above
		other := slices.Clone(nodes)
		other[i].Fold.Max += d
		l = append(l, other)
	}
	return l
}

// forgedBelow tells questions with a wrong claim whose proof is wrong below the part p alone: in nodes of the range and beside it.
func (m *model) forgedBelow(tree, size, from, to int, p [2]int) []question {
	nodes, cover := m.proofNodes(tree, from, to), coverOf(size, from, to)
	n := treeOf(m.places(tree)[p[0]:p[1]])
	inside := func(i int) bool { return from <= cover[i][0] && cover[i][1] <= to }
	below := func(i int) bool { return p[0] <= cover[i][0] && cover[i][1] <= p[1] }
	var l []question
	for i := range cover {
		for j := range cover {
			if !below(i) || !below(j) || !inside(i) || inside(j) {
				continue
			}
			for k, other := range changedNodes(nodes, i, j) {
				free := []int{i, j}[k%2]
				if workedOut(size, from, to, other)[p].Fold != n.Fold || !forgePart(size, from, to, other, free, p, n.Hash) {
					continue
				}
				if q := forged(tree, size, from, to, other...); q.claim != m.fold(tree, from, to) {
					l = append(l, q)
				}
			}
			if len(l) > 0 {
				return l
			}
		}
	}
	return nil
}

// Wrong below one part alone, whichever of those above the cover's parts it is. Its head is that of the tree, and so is every node beside it.
func TestExtractEachPart(t *testing.T) {
	for _, c := range [][3]int{
		{2, 0, 1}, {2, 1, 2}, {3, 0, 1}, {3, 1, 2}, {3, 2, 3}, {3, 0, 2}, {3, 1, 3}, {4, 1, 2}, {5, 4, 5}, {7, 2, 5}, {7, 6, 7},
		{11, 3, 10}, {16, 7, 9}, {21, 20, 21}, {32, 5, 6}, {33, 1, 32}, {63, 13, 50}, {64, 0, 1}, {64, 1, 63}, {64, 31, 33}, {64, 63, 64},
	} {
		size, from, to := c[0], c[1], c[2]
		m := squares(size)
		s := m.storeOf(t)
		cover := coverOf(size, from, to)
		for p := range workedOut(size, from, to, m.proofNodes(api.Log, from, to)) {
			if slices.Contains(cover, p) {
				continue
			}
			l := m.forgedBelow(api.Log, size, from, to, p)
			for _, q := range l {
				wantCheck(t, q, api.OK)
				wantError(t, "Extract", m.extract(t, s, q), api.OK)
			}
			if len(l) == 0 {
				t.Errorf("%v of %v was not forged: the test is too weak", p, c)
			}
		}
		wantHolds(t, s, m)
	}
}

// Tables have parts without keys: the text of the node above two of them is another.
func TestExtractTables(t *testing.T) {
	seen := map[string]int{}
	for _, table := range tables {
		m := &model{log: []int{8, 9}, table: table}
		s := m.storeOf(t)
		for _, r := range [][2]int{{0, 1}, {4, 5}, {5, 6}, {6, 8}, {7, 9}, {8, 16}, {0, 16}, {1, 31}, {16, 32}, {13, 20}, {31, 32}} {
			from, to := r[0], r[1]
			cover := coverOf(32, from, to)
			for p := range workedOut(32, from, to, m.proofNodes(api.Table, from, to)) {
				if slices.Contains(cover, p) {
					continue
				}
				for _, q := range m.forgedBelow(api.Table, 32, from, to, p) {
					wantError(t, "Extract", m.extract(t, s, q), api.OK)
					first, second, _ := s.Extract(q.tree, q.from, q.to, q.claim, q.proof)
					seen[first[:1]+second[:1]]++
				}
			}
		}
		wantHolds(t, s, m)
	}
	if seen["II"] < 100 || seen["IE"] < 100 {
		t.Errorf("clashes by their letters: %v: the test is too weak", seen)
	}
}

// A proof that says of a part that it is empty has the text E there, though the tree has none.
func TestExtractEmptyInProof(t *testing.T) {
	m := &model{log: []int{7, 7, 4, 9}, table: map[int]int{5: 300, 6: 0, 20: 1}}
	s := m.storeOf(t)
	for _, c := range []struct{ tree, size, from, to, free int }{
		{api.Log, 4, 0, 1, 2}, {api.Log, 4, 1, 2, 2}, {api.Table, 32, 5, 6, 5}, {api.Table, 32, 5, 7, 0}, {api.Table, 32, 6, 7, 4},
	} {
		forgedSome := false
		for sum := range 5 {
			nodes := times(emptyNode(), len(coverOf(c.size, c.from, c.to)))
			nodes[c.free].Fold = api.Fold{Count: 1, Sum: sum, Max: 3}
			if !forgeHead(c.size, c.from, c.to, nodes, c.free, m.head(c.tree, c.size).Root) {
				continue
			}
			forgedSome = true
			wantError(t, "Extract", m.extract(t, s, forged(c.tree, c.size, c.from, c.to, nodes...)), api.OK)
		}
		if !forgedSome {
			t.Errorf("%v was not forged: the test is too weak", c)
		}
	}
}

// Right is right: also by a proof that is wrong beside the range.
func TestExtractTrue(t *testing.T) {
	for _, size := range sizes {
		m := squares(size)
		m.table = tables[size%len(tables)]
		s := m.storeOf(t)
		for to := range size + 1 {
			for from := range to + 1 {
				q := m.honest(api.Log, from, to)
				wantNoExtract(t, s, q, api.ErrTrue)
				q.claim.Sum++
				wantNoExtract(t, s, q, api.ErrClaim)
			}
		}
		for k := range api.Keys {
			wantNoExtract(t, s, m.honest(api.Table, k, k+1), api.ErrTrue)
			wantNoExtract(t, s, m.honest(api.Table, k, api.Keys), api.ErrTrue)
		}
	}
}

func wantNoExtract(t *testing.T, s *notary.Store, q question, want api.Errno) {
	t.Helper()
	first, second, e := s.Extract(q.tree, q.from, q.to, q.claim, q.proof)
	wantNone(t, "Extract", first, second, e, want)
}

func TestExtractTrueBesideWrongNodes(t *testing.T) {
	m := squares(7)
	s := m.storeOf(t)
	count := 0
	for free := range coverOf(7, 3, 6) {
		nodes := m.proofNodes(api.Log, 3, 6)
		if free == 2 || free == 3 {
			continue // these lie in the range
		}
		for d := range 9 {
			nodes[free].Fold.Max += d + 1
			if !forgeHead(7, 3, 6, nodes, free, m.head(api.Log, 7).Root) {
				continue
			}
			count++
			q := forged(api.Log, 7, 3, 6, nodes...)
			wantCheck(t, q, api.OK)
			wantNoExtract(t, s, q, api.ErrTrue)
		}
	}
	if count < 9 {
		t.Errorf("%d proofs were forged: the test is too weak", count)
	}
}

func TestExtractNoEntries(t *testing.T) {
	m := &model{}
	s := m.storeOf(t)
	wantNoExtract(t, s, m.honest(api.Log, 0, 0), api.ErrTrue)
	nodes := []api.Node{node(1, 5, 5, 5, 0, 0)}
	if !forgeHead(0, 0, 0, nodes, 0, m.head(api.Log, 0).Root) {
		t.Fatal("no node was forged")
	}
	q := forged(api.Log, 0, 0, 0, nodes...)
	wantNoExtract(t, s, q, api.ErrTrue)
	q.claim = nodes[0].Fold
	wantNoExtract(t, s, q, api.ErrClaim)
	q.to = 1
	wantNoExtract(t, s, q, api.ErrRange)
}

// Wrong ranges and trees, with what would be right beside them.
func TestExtractNoRange(t *testing.T) {
	m := squares(7)
	s := m.storeOf(t)
	for tree, size := range []int{7, api.Keys} {
		for _, q := range []question{m.honest(tree, 0, size), m.honest(tree, 3, 6), {tree: tree, proof: "\x03"}, {tree: tree, proof: strings.Repeat("\x01", 1<<20)}} {
			for _, r := range [][2]int{
				{-1, 0}, {-1, 6}, {-1, -1}, {0, -1}, {6, 3}, {1, 0}, {size, size - 1}, {0, size + 1}, {3, size + 1}, {size + 1, size + 1}, {size, size + 1},
				{math.MinInt, math.MaxInt}, {math.MaxInt, math.MinInt}, {math.MinInt, 6}, {3, math.MaxInt}, {math.MaxInt, math.MaxInt}, {math.MinInt, math.MinInt},
			} {
				wrong := q
				wrong.from, wrong.to = r[0], r[1]
				wantNoExtract(t, s, wrong, api.ErrRange)
			}
			for _, tree := range noTrees {
				wrong := q
				wrong.tree = tree
				wantNoExtract(t, s, wrong, api.ErrRange)
			}
		}
	}
	// what the log had was no range ahead of its entries, and is one behind them
	wantNoExtract(t, s, squares(8).honest(api.Log, 7, 8), api.ErrRange)
	wantOK(t, "Append", s.Append(49))
	wantNoExtract(t, s, squares(8).honest(api.Log, 7, 8), api.ErrTrue)
	wantNoExtract(t, s, m.honest(api.Log, 0, 7), api.ErrCount)
}

// Each error ahead of those that are named behind it. The proof is for a range whose cover has five parts: 0 to 2, 2 to 3, 3 to 4, 4 to 6, 6 to 7.
func TestExtractFirstError(t *testing.T) {
	m := squares(7)
	s := m.storeOf(t)
	good := m.honest(api.Log, 3, 6)
	great := node(top, 1, 1, 1, 1, 1)
	taken := m.proofNodes(api.Log, 3, 6)
	taken[2].Fold.Min--
	if !forgeHead(7, 3, 6, taken, 3, good.h.Root) {
		t.Fatal("no node was forged")
	}
	claims := []api.Fold{good.claim, {}, {Count: -1}, {Count: math.MaxInt, Sum: math.MinInt, Min: math.MaxInt, Max: math.MinInt}}
	for want, proofs := range map[api.Errno][]string{
		api.ErrBytes: {"\x02", "\x01", good.proof + "\x02", strings.Repeat("\x00", 65), strings.Repeat("\x00", 1001), strings.Repeat("\x01", 1<<20)},
		api.ErrCount: {"", "\x00", proofOf(great, great), proofOf(times(great, 6)...), strings.Repeat("\x00", 64)},
		api.ErrNode:  {proofOf(times(great, 5)...), proofOf(great, emptyNode(), emptyNode(), emptyNode(), great)},
		api.ErrRoot:  {"\x00\x00\x00\x00\x00", proofOf(great, emptyNode(), emptyNode(), emptyNode(), emptyNode())},
		// by this proof another claim is taken: the right one is not
		api.ErrClaim: {proofOf(taken...)},
	} {
		for _, p := range proofs {
			for _, claim := range claims {
				q := good
				q.claim, q.proof = claim, p
				wantNoExtract(t, s, q, want)
				q.tree = 2
				wantNoExtract(t, s, q, api.ErrRange)
				q.tree, q.to = api.Log, 8
				wantNoExtract(t, s, q, api.ErrRange)
			}
		}
	}
	wantError(t, "Extract", m.extract(t, s, forged(api.Log, 7, 3, 6, taken...)), api.OK)
	wantHolds(t, s, m)
}

// The head is that of the tree as it is, not of an older one.
func TestExtractHangsOnStore(t *testing.T) {
	a, b := squares(3), squares(3)
	b.log[1] = 2
	s, other := a.storeOf(t), b.storeOf(t)
	q := a.honest(api.Log, 0, 2)
	for range 3 {
		wantNoExtract(t, s, q, api.ErrTrue)
		wantNoExtract(t, other, q, api.ErrRoot)
	}
	a.table, b.table = map[int]int{4: 1}, map[int]int{4: 2}
	wantOK(t, "Set", s.Set(4, 1))
	wantOK(t, "Set", other.Set(4, 2))
	q = a.honest(api.Table, 4, 5)
	wantNoExtract(t, s, q, api.ErrTrue)
	wantNoExtract(t, other, q, api.ErrRoot)
	wantOK(t, "Set", other.Set(4, 1))
	wantNoExtract(t, other, q, api.ErrTrue)
	wantOK(t, "Delete", other.Delete(4))
	wantNoExtract(t, other, q, api.ErrRoot)
}

// anyModel has a log and a table of all kinds.
func anyModel(r *rand.Rand) *model {
	m := &model{table: map[int]int{}}
	for range r.IntN(1 + r.IntN(api.MaxEntries+1)) {
		m.log = append(m.log, r.IntN(1+r.IntN(70000)))
	}
	for range r.IntN(1 + r.IntN(40)) {
		m.table[r.IntN(api.Keys)] = r.IntN(1 + r.IntN(70000))
	}
	return m
}

// Proofs of all kinds that come to the head, some with something changed.
func TestExtractManyQuestions(t *testing.T) {
	r := rand.New(rand.NewPCG(7, 8))
	seen := map[api.Errno]int{}
	for range 3000 {
		m, tree, size := anyModel(r), r.IntN(2), api.Keys
		if tree == api.Log {
			size = len(m.log)
		}
		from := r.IntN(size + 1)
		to := from + r.IntN(size+1-from)
		nodes := m.proofNodes(tree, from, to)
		for range r.IntN(4) {
			nodes[r.IntN(len(nodes))] = anyNode(r)
		}
		forgeHead(size, from, to, nodes, r.IntN(len(nodes)), m.head(tree, size).Root)
		q := forged(tree, size, from, to, nodes...)
		if r.IntN(4) == 0 {
			q = q.changed(r)
		}
		seen[m.extract(t, m.storeOf(t), q)]++
		if t.Failed() {
			return
		}
	}
	for _, e := range []api.Errno{api.OK, api.ErrRange, api.ErrBytes, api.ErrCount, api.ErrNode, api.ErrRoot, api.ErrClaim, api.ErrTrue} {
		if seen[e] < 20 {
			t.Errorf("%d questions were answered by error %d: the test is too weak", seen[e], e)
		}
	}
}
