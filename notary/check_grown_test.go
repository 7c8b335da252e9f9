package notary_test

import (
	"math"
	"math/rand/v2"
	"slices"
	"strings"
	"testing"

	"notary/api"
)

// The proofs and heads here were worked out apart from this program.
func TestCheckGrown(t *testing.T) {
	whole := "\x01\x03\x11\x03\x09\x31\x13"
	left, nine := "\x01\x02\x08\x03\x05\xb3\x35", "\x01\x01\x09\x09\x09\x5d\x65"
	five, three := "\x01\x01\x05\x05\x05\x5d\x61", "\x01\x01\x03\x03\x03\x5d\x5f"
	at := []api.Head{1: {Size: 1, Root: api.Digest{98, 252}}, 2: {Size: 2, Root: api.Digest{6, 46}}, 3: {Size: 3, Root: api.Digest{245, 4}}}
	fiveOfSeven := "\x01\x04\xf3\x86\x3d\x00\xc0\x84\x3d\x13\x82\x01\x01\x7f\x7f\x7f\x5d\xdb\x01\x01\x80\x01\x80\x01\x80\x01\x72\xa6\x01\x01\x80\x80\x01\x80\x80\x01\x80\x80\x01\x51\xef"
	wrong := proofOf(node(4, 10, 1, 4, 1, 1), node(1, top-15, 9, 9, 2, 2), node(0, 5, 6, 7, 3, 3), emptyNode())
	for _, g := range []growth{
		{at[1], at[1], five},
		{at[1], at[2], five + three},
		{at[1], at[3], five + three + nine},
		{at[2], at[2], left},
		{at[2], at[3], left + nine},
		{at[3], at[3], whole},
		{api.Head{Size: 5, Root: api.Digest{104, 186}}, api.Head{Size: 7, Root: api.Digest{65, 175}}, fiveOfSeven},
		// no log comes to this, but the nodes may be
		{api.Head{Size: 5, Root: api.Digest{194, 206}}, api.Head{Size: 7, Root: api.Digest{254, 75}}, wrong},
	} {
		wantCheckGrown(t, g, api.OK)
		for i := range g.old.Root {
			old, now := g, g
			old.old.Root[i]++
			wantCheckGrown(t, old, api.ErrRoot)
			now.now.Root[i]++
			wantCheckGrown(t, now, api.ErrRoot)
		}
	}
}

func TestCheckGrownTakesWhatGrownTells(t *testing.T) {
	for size := 1; size <= api.MaxEntries; size++ {
		s := squares(size).storeOf(t)
		now, _ := s.Head(api.Log, size)
		for old := 1; old <= size; old++ {
			h, e := s.Head(api.Log, old)
			wantOK(t, "Head", e)
			p, e := s.Grown(old)
			wantOK(t, "Grown", e)
			wantCheckGrown(t, growth{h, now, p}, api.OK)
			h.Root[1]++
			wantCheckGrown(t, growth{h, now, p}, api.ErrRoot)
			h.Root[1]--
			other := now
			other.Root[0]++
			wantCheckGrown(t, growth{h, other, p}, api.ErrRoot)
		}
	}
}

func TestCheckGrownByteLessOrMore(t *testing.T) {
	for _, c := range [][2]int{{1, 1}, {1, 2}, {2, 3}, {5, 7}, {7, 7}, {21, 42}, {63, 64}} {
		g := squares(c[1]).grown(c[0])
		for _, p := range byteLessOrMore(g.proof) {
			other := g
			other.proof = p
			want := other.answer()
			if want != api.ErrBytes && want != api.ErrCount && want != api.ErrRoot {
				t.Fatalf("%q is taken for %q: the test is wrong", p, g.proof)
			}
			wantCheckGrown(t, other, want)
		}
	}
}

// Wrong sizes, with readable proofs and with others.
func TestCheckGrownNoRange(t *testing.T) {
	for _, c := range [][2]int{
		{0, 0}, {0, 1}, {0, 64}, {-1, 3}, {-1, -1}, {3, 2}, {64, 63}, {1, 0}, {1, -1}, {1, 65}, {64, 65}, {65, 65}, {65, 64}, {66, 65},
		{math.MinInt, math.MaxInt}, {math.MaxInt, math.MinInt}, {1, math.MaxInt}, {math.MinInt, 1}, {math.MaxInt, math.MaxInt}, {math.MinInt, math.MinInt},
	} {
		for _, p := range []string{"", "\x00", "\x00\x00", "\x03", strings.Repeat("\x00", 65), strings.Repeat("\x01", 1<<20)} {
			wantCheckGrown(t, growth{api.Head{Size: c[0], Root: api.Digest{186, 13}}, api.Head{Size: c[1], Root: api.Digest{186, 13}}, p}, api.ErrRange)
		}
	}
	// an empty log begins every one, but no proof is taken for it
	m := squares(3)
	wantCheckGrown(t, growth{m.head(api.Log, 0), m.head(api.Log, 3), m.proof(api.Log, 0, 0)}, api.ErrRange)
}

func TestCheckGrownCount(t *testing.T) {
	for _, size := range sizes {
		m := squares(size)
		for old := 1; old <= size; old++ {
			g, nodes := m.grown(old), m.proofNodes(api.Log, 0, old)
			for _, other := range [][]api.Node{
				nil, nodes[1:], nodes[:len(nodes)-1], append(slices.Clone(nodes), emptyNode()),
				times(node(top, top, top, top, 1, 2), len(nodes)+1), times(emptyNode(), 64),
			} {
				g.proof = proofOf(other...)
				wantCheckGrown(t, g, api.ErrCount)
			}
		}
	}
}

// Each error ahead of those that are named behind it. The cover of 0 to 5 of 7 has four parts.
func TestCheckGrownFirstError(t *testing.T) {
	good := squares(7).grown(5)
	wantCheckGrown(t, good, api.OK)
	great := node(1, top, 1, 1, 1, 1)
	for want, proofs := range map[api.Errno][]string{
		api.ErrBytes: {"\x02", "\x01", good.proof + "\x02", strings.Repeat("\x00", 65), strings.Repeat("\x00", 1001)},
		api.ErrCount: {"", "\x00", proofOf(great, great), proofOf(times(great, 5)...), strings.Repeat("\x00", 64)},
		api.ErrNode:  {proofOf(times(great, 4)...), proofOf(great, emptyNode(), emptyNode(), great), proofOf(great, great, emptyNode(), emptyNode())},
		api.ErrRoot:  {"\x00\x00\x00\x00", proofOf(great, emptyNode(), emptyNode(), emptyNode())},
	} {
		for _, p := range proofs {
			g := good
			g.proof = p
			wantCheckGrown(t, g, want)
			g.old.Root = api.Digest{}
			wantCheckGrown(t, g, want)
			g.now.Root = api.Digest{}
			wantCheckGrown(t, g, want)
			g.old, g.now = g.now, g.old
			wantCheckGrown(t, g, api.ErrRange)
		}
	}
}

// Too great in the beginning, behind it, or only in all.
func TestCheckGrownTooGreat(t *testing.T) {
	for _, c := range [][2]int{{1, 2}, {2, 3}, {5, 7}, {21, 42}, {31, 33}, {63, 64}, {1, 64}} {
		old, now := c[0], c[1]
		count := len(coverOf(now, 0, old))
		for i := range count {
			for j := range i {
				nodes := times(node(0, 0, 0, 0, 4, 4), count)
				nodes[i], nodes[j] = node(top-7, top-3, 1, 1, 1, 1), node(7, 3, 1, 1, 1, 1)
				wantCheckGrown(t, forgedGrowth(old, now, nodes...), api.OK)
				nodes[j].Fold.Count = 8
				wantCheckGrown(t, forgedGrowth(old, now, nodes...), api.ErrNode)
				nodes[j].Fold.Count, nodes[j].Fold.Sum = 7, 4
				wantCheckGrown(t, forgedGrowth(old, now, nodes...), api.ErrNode)
			}
		}
		wantCheckGrown(t, forgedGrowth(old, now, times(node(top, top, top, top, 1, 1), count)...), api.ErrNode)
		wantCheckGrown(t, forgedGrowth(old, now, times(node(1, 1, top, top, 1, 1), count)...), api.OK)
	}
	wantCheckGrown(t, forgedGrowth(9, 9, node(top, top, top, top, 1, 1)), api.OK)
}

// Where both sizes are the same, both heads are.
func TestCheckGrownSameSize(t *testing.T) {
	n, other := node(1, 2, 3, 4, 5, 6), node(1, 2, 3, 4, 5, 7)
	for size := 1; size <= api.MaxEntries; size++ {
		h, h2 := headOf(size, n), headOf(size, other)
		wantCheckGrown(t, growth{h, h, proofOf(n)}, api.OK)
		wantCheckGrown(t, growth{h2, h, proofOf(n)}, api.ErrRoot)
		wantCheckGrown(t, growth{h, h2, proofOf(n)}, api.ErrRoot)
		wantCheckGrown(t, growth{h, h, proofOf(other)}, api.ErrRoot)
	}
}

// A log that differs in one value does not begin, whichever of them it is.
func TestCheckGrownOtherBeginning(t *testing.T) {
	m := squares(13)
	for old := 1; old <= 13; old++ {
		for i := range old {
			other := &model{log: slices.Clone(m.log[:old])}
			other.log[i] += 1000
			g := m.grown(old)
			g.old = other.head(api.Log, old)
			wantCheckGrown(t, g, g.answer())
			if g.answer() != api.ErrRoot {
				t.Fatalf("%d of %d: the test is wrong", i, old)
			}
		}
	}
}

// Growths of all kinds, most of them with something changed.
func TestCheckGrownManyGrowths(t *testing.T) {
	r := rand.New(rand.NewPCG(5, 6))
	seen := map[api.Errno]int{}
	for range 20000 {
		now := 1 + r.IntN(1+r.IntN(api.MaxEntries))
		old := 1 + r.IntN(now)
		g := forgedGrowth(old, now, anyNodes(r, len(coverOf(now, 0, old)))...)
		for range r.IntN(3) {
			g = g.changed(r)
		}
		seen[g.answer()]++
		wantCheckGrown(t, g, g.answer())
		if t.Failed() {
			return
		}
	}
	for _, e := range []api.Errno{api.OK, api.ErrRange, api.ErrBytes, api.ErrCount, api.ErrNode, api.ErrRoot} {
		if seen[e] < 100 {
			t.Errorf("%d growths were answered by error %d: the test is too weak", seen[e], e)
		}
	}
}
