package notary_test

import (
	"math"
	"math/rand/v2"
	"slices"
	"strings"
	"testing"

	"notary/api"
	"notary/notary"
)

// wantTaken asks that Check takes what Ask tells of a range, with the head, and nothing else in its place.
func wantTaken(t *testing.T, s *notary.Store, tree int, size int, from int, to int) {
	t.Helper()
	h, e := s.Head(tree, size)
	wantOK(t, "Head", e)
	f, p, e := s.Ask(tree, from, to)
	wantOK(t, "Ask", e)
	q := question{tree, h, from, to, f, p}
	wantCheck(t, q, api.OK)
	for _, claim := range otherFolds(f) {
		q.claim = claim
		wantCheck(t, q, api.ErrClaim)
	}
	q.claim = f
	for i := range q.h.Root {
		q.h = h
		q.h.Root[i]++
		wantCheck(t, q, api.ErrRoot)
	}
}

// otherFolds are folds that differ from f in one number.
func otherFolds(f api.Fold) []api.Fold {
	var l []api.Fold
	for _, d := range []int{-1, 1, 1 << 32, math.MinInt} {
		for place := range 4 {
			g := f
			*[]*int{&g.Count, &g.Sum, &g.Min, &g.Max}[place] += d
			l = append(l, g)
		}
	}
	return l
}

func TestCheckTakesWhatAskTells(t *testing.T) {
	for _, size := range sizes {
		s := squares(size).storeOf(t)
		for to := range size + 1 {
			for from := range to + 1 {
				wantTaken(t, s, api.Log, size, from, to)
			}
		}
	}
	for _, table := range tables {
		s := (&model{log: []int{8, 9}, table: table}).storeOf(t)
		for to := range api.Keys + 1 {
			for from := range to + 1 {
				wantTaken(t, s, api.Table, api.Keys, from, to)
			}
		}
	}
	m := heavy()
	wantTaken(t, m.storeOf(t), api.Log, 5, 0, 5)
	wantTaken(t, m.storeOf(t), api.Table, 32, 0, 32)
}

func TestCheckByteLessOrMore(t *testing.T) {
	m := squares(13)
	m.table = tables[10]
	for _, q := range []question{
		m.honest(api.Log, 0, 13), m.honest(api.Log, 4, 4), m.honest(api.Log, 3, 7), m.honest(api.Log, 12, 13),
		m.honest(api.Table, 0, 32), m.honest(api.Table, 3, 10), m.honest(api.Table, 4, 5), m.honest(api.Table, 20, 31),
		squares(0).honest(api.Log, 0, 0), squares(0).honest(api.Table, 5, 6), squares(64).honest(api.Log, 21, 43),
	} {
		for _, p := range byteLessOrMore(q.proof) {
			other := q
			other.proof = p
			want := other.answer()
			if want != api.ErrBytes && want != api.ErrCount && want != api.ErrRoot {
				t.Fatalf("%q is taken for %q: the test is wrong", p, q.proof)
			}
			wantCheck(t, other, want)
		}
	}
}

// Wrong ranges, with what would be right beside them.
func TestCheckNoRange(t *testing.T) {
	log, table := squares(32).honest(api.Log, 5, 9), (&model{table: tables[10]}).honest(api.Table, 5, 9)
	for _, q := range []question{log, table} {
		for _, r := range [][2]int{
			{-1, 0}, {-1, 9}, {-1, -1}, {0, -1}, {9, 5}, {1, 0}, {32, 31}, {0, 33}, {5, 33}, {33, 33}, {32, 33}, {33, 32}, {0, 64}, {64, 64},
			{math.MinInt, math.MaxInt}, {math.MaxInt, math.MinInt}, {math.MinInt, 9}, {5, math.MaxInt}, {math.MaxInt, math.MaxInt}, {math.MinInt, math.MinInt},
		} {
			wrong := q
			wrong.from, wrong.to = r[0], r[1]
			wantCheck(t, wrong, api.ErrRange)
		}
		for _, tree := range noTrees {
			wrong := q
			wrong.tree = tree
			wantCheck(t, wrong, api.ErrRange)
		}
	}
}

func TestCheckNoSize(t *testing.T) {
	e := emptyNode()
	for _, size := range []int{-1, -2, 65, 66, 128, math.MinInt, math.MaxInt, 1 << 62} {
		h := headOf(64, e)
		h.Size = size
		for _, r := range [][2]int{{0, 0}, {0, 1}, {0, size}, {size, size}, {0, 1 << 61}} {
			wantCheck(t, question{api.Log, h, r[0], r[1], api.Fold{}, "\x00"}, api.ErrRange)
			wantCheck(t, question{api.Table, h, r[0], r[1], api.Fold{}, "\x00"}, api.ErrRange)
		}
	}
	for size := range 65 {
		if size != 32 {
			wantCheck(t, question{api.Table, headOf(size, e), 0, size, api.Fold{}, "\x00"}, api.ErrRange)
		}
		wantCheck(t, question{api.Log, headOf(size, e), 0, size, api.Fold{}, "\x00"}, api.OK)
	}
	wantCheck(t, question{api.Table, headOf(32, e), 0, 32, api.Fold{}, "\x00"}, api.OK)
}

// A size of 32 both trees may have: what a proof comes to is the same.
func TestCheckTreesAlike(t *testing.T) {
	log, table := squares(32).honest(api.Log, 5, 9), (&model{table: tables[10]}).honest(api.Table, 3, 10)
	log.tree, table.tree = api.Table, api.Log
	wantCheck(t, log, api.OK)
	wantCheck(t, table, api.OK)
}

func TestCheckCount(t *testing.T) {
	for _, size := range []int{0, 1, 2, 3, 7, 32, 64} {
		m := squares(size)
		for to := range size + 1 {
			for from := range to + 1 {
				q, nodes := m.honest(api.Log, from, to), m.proofNodes(api.Log, from, to)
				first := nodes[0]
				for _, other := range [][]api.Node{
					nil, nodes[1:], nodes[:len(nodes)-1], append([]api.Node{first}, nodes...), append(slices.Clone(nodes), emptyNode()),
					times(emptyNode(), len(nodes)+1), times(node(top, top, top, top, 1, 2), len(nodes)+1), times(emptyNode(), 64),
				} {
					q.proof = proofOf(other...)
					wantCheck(t, q, api.ErrCount)
				}
			}
		}
	}
}

// Each error ahead of those that are named behind it. The proof is for a range whose cover has five parts: 0 to 2, 2 to 3, 3 to 4, 4 to 6, 6 to 7.
func TestCheckFirstError(t *testing.T) {
	good := squares(7).honest(api.Log, 3, 6)
	wantCheck(t, good, api.OK)
	great := node(top, 1, 1, 1, 1, 1)
	noBytes := []string{"\x02", "\x01", good.proof + "\x02", strings.Repeat("\x00", 65), strings.Repeat("\x00", 1001), strings.Repeat("\x01", 1<<20)}
	noCount := []string{"", "\x00", proofOf(great, great), proofOf(times(great, 6)...), strings.Repeat("\x00", 64)}
	noNode := []string{proofOf(times(great, 5)...), proofOf(great, emptyNode(), emptyNode(), emptyNode(), great)}
	otherNodes := []string{"\x00\x00\x00\x00\x00", proofOf(great, emptyNode(), emptyNode(), emptyNode(), emptyNode())}
	for _, proofs := range [][]string{noBytes, noCount, noNode, otherNodes} {
		for _, p := range proofs {
			for _, claim := range []api.Fold{good.claim, {}, {Count: -1}} {
				q := good
				q.claim, q.proof = claim, p
				q.from = -1
				wantCheck(t, q, api.ErrRange)
				q.from, q.h.Size = 0, 65
				wantCheck(t, q, api.ErrRange)
				q.h.Size, q.tree = 7, api.Table
				wantCheck(t, q, api.ErrRange)
			}
		}
	}
	for want, proofs := range map[api.Errno][]string{api.ErrBytes: noBytes, api.ErrCount: noCount, api.ErrNode: noNode, api.ErrRoot: otherNodes} {
		for _, p := range proofs {
			for _, claim := range []api.Fold{good.claim, {}, {Count: -1}} {
				for _, root := range []api.Digest{good.h.Root, {}} {
					q := good
					q.claim, q.proof, q.h.Root = claim, p, root
					wantCheck(t, q, want)
				}
			}
		}
	}
}

// Too great is what is worked out, wherever it is, and not what is just as great as may be.
func TestCheckTooGreat(t *testing.T) {
	numbers := []func(n int) api.Node{
		func(n int) api.Node { return node(n, 5, 5, 5, 9, 9) },
		func(n int) api.Node { return node(1, n, 0, 3, 9, 9) },
	}
	for _, c := range [][3]int{{2, 0, 1}, {3, 1, 2}, {3, 2, 3}, {7, 3, 6}, {32, 5, 6}, {64, 13, 50}, {64, 63, 64}, {33, 0, 31}} {
		size, from, to := c[0], c[1], c[2]
		count := len(coverOf(size, from, to))
		for i := range count {
			for j := range count {
				if i == j {
					continue
				}
				for _, n := range numbers {
					nodes := times(node(0, 0, 0, 0, 4, 4), count)
					nodes[i], nodes[j] = n(top-7), n(7)
					wantCheck(t, forged(api.Log, size, from, to, nodes...), api.OK)
					nodes[j] = n(8)
					wantCheck(t, forged(api.Log, size, from, to, nodes...), api.ErrNode)
					nodes[i], nodes[j] = n(top), n(top)
					wantCheck(t, forged(api.Log, size, from, to, nodes...), api.ErrNode)
				}
			}
		}
		wantCheck(t, forged(api.Log, size, from, to, times(node(top, top, top, top, 1, 1), count)...), api.ErrNode)
		// the least and the greatest are not added
		wantCheck(t, forged(api.Log, size, from, to, times(node(1, 1, top, top, 1, 1), count)...), api.OK)
	}
}

// What is read is never too great, as it is not worked out.
func TestCheckGreatWhole(t *testing.T) {
	n := node(top, top, top, top, 255, 254)
	for _, size := range []int{0, 1, 2, 32, 64} {
		q := forged(api.Log, size, 0, size, n)
		wantCheck(t, q, api.OK)
		q.h.Root[0]++
		wantCheck(t, q, api.ErrRoot)
	}
	wantCheck(t, question{api.Log, api.Head{Size: 0, Root: api.Digest{120, 86}}, 0, 0, api.Fold{}, proofOf(n)}, api.OK)
	wantCheck(t, question{api.Log, api.Head{Size: 0, Root: api.Digest{120, 86}}, 0, 0, n.Fold, proofOf(n)}, api.ErrClaim)
}

// The heads here were worked out apart from this program.
func TestCheckWrongNodes(t *testing.T) {
	nothing, five := emptyNode(), node(1, 5, 5, 5, 1, 2)
	uncounted := proofOf(node(0, 3, 8, 9, 7, 8), node(0, 4, 5, 6, 7, 8), node(2, 9, 4, 5, 1, 2))
	great := proofOf(node(top-1, 0, 9, 0, 0, 0), node(1, top, 0, top, 1, 77))
	for _, q := range []question{
		{api.Log, api.Head{Size: 3, Root: api.Digest{65, 96}}, 1, 2, api.Fold{Sum: 4, Min: 5, Max: 6}, uncounted},
		{api.Log, api.Head{Size: 3, Root: api.Digest{65, 96}}, 0, 1, api.Fold{Sum: 3, Min: 8, Max: 9}, uncounted},
		{api.Log, api.Head{Size: 3, Root: api.Digest{65, 96}}, 1, 3, api.Fold{Count: 2, Sum: 13, Min: 4, Max: 5}, uncounted},
		{api.Log, api.Head{Size: 3, Root: api.Digest{159, 95}}, 1, 3, five.Fold, proofOf(nothing, nothing, five)},
		{api.Log, api.Head{Size: 3, Root: api.Digest{125, 180}}, 1, 2, api.Fold{}, "\x00\x00\x00"},
		{api.Log, api.Head{Size: 3, Root: api.Digest{125, 180}}, 0, 3, api.Fold{}, "\x00"},
		{api.Log, api.Head{Size: 64, Root: api.Digest{93, 7}}, 0, 64, api.Fold{}, "\x00"},
		{api.Log, api.Head{Size: 2, Root: api.Digest{124, 88}}, 0, 1, api.Fold{Count: top - 1, Min: 9}, great},
		{api.Log, api.Head{Size: 2, Root: api.Digest{124, 88}}, 1, 2, api.Fold{Count: 1, Sum: top, Max: top}, great},
		{api.Log, api.Head{Size: 2, Root: api.Digest{55, 100}}, 0, 1, api.Fold{}, proofOf(node(0, 0, 0, 0, 1, 78), nothing)},
	} {
		wantCheck(t, q, api.OK)
		q.claim.Min++
		wantCheck(t, q, api.ErrClaim)
		q.h.Root[1]++
		wantCheck(t, q, api.ErrRoot)
	}
}

// A proof tells of its own size and its own places only.
func TestCheckOtherTree(t *testing.T) {
	a, b := node(1, 5, 5, 5, 1, 1), node(1, 3, 3, 3, 2, 2)
	q := forged(api.Log, 2, 0, 1, a, b)
	wantCheck(t, q, api.OK)
	swapped := q
	swapped.proof = proofOf(b, a)
	wantCheck(t, swapped, api.ErrRoot)
	longer := forged(api.Log, 5, 0, 5, a)
	longer.h.Size, longer.to = 6, 6
	wantCheck(t, longer, api.ErrRoot)
	for place := range 4 {
		other := forged(api.Log, 5, 0, 5, withNumber(place, 1))
		other.proof = proofOf(withNumber(place, 2))
		wantCheck(t, other, api.ErrRoot)
	}
}

// Questions of all kinds, most of them with something changed.
func TestCheckManyQuestions(t *testing.T) {
	r := rand.New(rand.NewPCG(3, 4))
	seen := map[api.Errno]int{}
	for range 20000 {
		tree, size := r.IntN(2), api.Keys
		if tree == api.Log {
			size = r.IntN(r.IntN(api.MaxEntries+1) + 1)
		}
		from := r.IntN(size + 1)
		to := from + r.IntN(size+1-from)
		q := forged(tree, size, from, to, anyNodes(r, len(coverOf(size, from, to)))...)
		for range r.IntN(3) {
			q = q.changed(r)
		}
		seen[q.answer()]++
		wantCheck(t, q, q.answer())
		if t.Failed() {
			return
		}
	}
	for _, e := range []api.Errno{api.OK, api.ErrRange, api.ErrBytes, api.ErrCount, api.ErrNode, api.ErrRoot, api.ErrClaim} {
		if seen[e] < 100 {
			t.Errorf("%d questions were answered by error %d: the test is too weak", seen[e], e)
		}
	}
}

// An answer hangs on what is asked alone: on no store, and on no question before.
func TestCheckHangsOnArguments(t *testing.T) {
	m := squares(9)
	s := m.storeOf(t)
	good, grown := m.honest(api.Log, 2, 7), m.grown(5)
	bad, badGrown := good, grown
	bad.claim.Sum++
	badGrown.old.Root[0]++
	for range 5 {
		wantCheck(t, good, api.OK)
		wantCheck(t, bad, api.ErrClaim)
		wantCheckGrown(t, grown, api.OK)
		wantCheckGrown(t, badGrown, api.ErrRoot)
		wantOK(t, "Append", s.Append(1))
		m.log = append(m.log, 1)
		wantHolds(t, s, m)
	}
}
