package notary_test

import (
	"math/rand/v2"
	"slices"
	"testing"

	"notary/api"
	"notary/notary"
)

// question is what Check is given.
type question struct {
	tree     int
	h        api.Head
	from, to int
	claim    api.Fold
	proof    string
}

// growth is what CheckGrown is given.
type growth struct {
	old, now api.Head
	proof    string
}

func wantCheck(t *testing.T, q question, want api.Errno) {
	t.Helper()
	if e := notary.Check(q.tree, q.h, q.from, q.to, q.claim, q.proof); e != want {
		t.Errorf("Check(%d, %v, %d, %d, %v, %.80q) = %d, want %d", q.tree, q.h, q.from, q.to, q.claim, q.proof, e, want)
	}
}

func wantCheckGrown(t *testing.T, g growth, want api.Errno) {
	t.Helper()
	if e := notary.CheckGrown(g.old, g.now, g.proof); e != want {
		t.Errorf("CheckGrown(%v, %v, %.80q) = %d, want %d", g.old, g.now, g.proof, e, want)
	}
}

// honest is the question whose answer is OK.
func (m *model) honest(tree int, from int, to int) question {
	size := api.Keys
	if tree == api.Log {
		size = len(m.log)
	}
	return question{tree, m.head(tree, size), from, to, m.fold(tree, from, to), m.proof(tree, from, to)}
}

func (m *model) grown(old int) growth {
	return growth{m.head(api.Log, old), m.head(api.Log, len(m.log)), m.proof(api.Log, 0, old)}
}

// forged is the question with these nodes as its proof, and with the head and the claim that fit them.
func forged(tree int, size int, from int, to int, nodes ...api.Node) question {
	at := workedOut(size, from, to, nodes)
	return question{tree, headOf(size, at[[2]int{0, size}]), from, to, rangeFold(size, from, to, nodes), proofOf(nodes...)}
}

// forgedGrowth is the growth with these nodes as its proof, and with the heads that fit them.
func forgedGrowth(old int, now int, nodes ...api.Node) growth {
	at := workedOut(now, 0, old, nodes)
	return growth{headOf(old, beginning(old, now, nodes)), headOf(now, at[[2]int{0, now}]), proofOf(nodes...)}
}

// workedOut tells the nodes of the cover's parts and of all parts above them, the least parts first.
func workedOut(size, from, to int, nodes []api.Node) map[[2]int]api.Node {
	at := map[[2]int]api.Node{}
	for i, p := range coverOf(size, from, to) {
		at[p] = nodes[i]
	}
	parts := partsOf(0, size)
	for i, p := range slices.Backward(parts) {
		if p[1]-p[0] < 2 {
			continue
		}
		left := parts[i+1]
		right := [2]int{left[1], p[1]}
		l, ok := at[left]
		if r, both := at[right]; ok && both {
			at[p] = aboveTwo(l, r)
		}
	}
	return at
}

// beginning puts the nodes of the parts that lie in the range together from the right, as the document says.
func beginning(old, now int, nodes []api.Node) api.Node {
	last := 0
	for i, p := range coverOf(now, 0, old) {
		if p[1] <= old {
			last = i
		}
	}
	n := nodes[last]
	for _, l := range slices.Backward(nodes[:last]) {
		n = aboveTwo(l, n)
	}
	return n
}

// rangeFold puts the folds of the parts that lie in the range together.
func rangeFold(size, from, to int, nodes []api.Node) api.Fold {
	var f api.Fold
	if from == to {
		return f
	}
	for i, p := range coverOf(size, from, to) {
		if from <= p[0] && p[1] <= to {
			f = togetherTwo(f, nodes[i].Fold)
		}
	}
	return f
}

// readOf tells what is told of a proof ahead of its heads: Read's error, then the number of its nodes, then numbers that are too great.
func readOf(size, from, to int, proof string) ([]api.Node, api.Errno) {
	nodes, e := notary.Read(proof)
	if e != api.OK {
		return nil, e
	}
	if len(nodes) != len(coverOf(size, from, to)) {
		return nil, api.ErrCount
	}
	for _, n := range workedOut(size, from, to, nodes) {
		if max(n.Fold.Count, n.Fold.Sum, n.Fold.Min, n.Fold.Max) > top {
			return nil, api.ErrNode
		}
	}
	return nodes, api.OK
}

// answer is what the document asks of Check.
func (q question) answer() api.Errno {
	size := q.h.Size
	isSize := q.tree == api.Log && size >= 0 && size <= 64 || q.tree == api.Table && size == 32
	if !isSize || q.from < 0 || q.to < q.from || q.to > size {
		return api.ErrRange
	}
	nodes, e := readOf(size, q.from, q.to, q.proof)
	if e != api.OK {
		return e
	}
	fit := forged(q.tree, size, q.from, q.to, nodes...)
	if fit.h != q.h {
		return api.ErrRoot
	}
	if fit.claim != q.claim {
		return api.ErrClaim
	}
	return api.OK
}

// answer is what the document asks of CheckGrown.
func (g growth) answer() api.Errno {
	if g.old.Size < 1 || g.now.Size < g.old.Size || g.now.Size > 64 {
		return api.ErrRange
	}
	nodes, e := readOf(g.now.Size, 0, g.old.Size, g.proof)
	if e != api.OK {
		return e
	}
	if fit := forgedGrowth(g.old.Size, g.now.Size, nodes...); fit.old != g.old || fit.now != g.now {
		return api.ErrRoot
	}
	return api.OK
}

// byteLessOrMore tells the texts that have one byte less than s, or one more at the beginning or the end.
func byteLessOrMore(s string) []string {
	var l []string
	for i := range s {
		l = append(l, s[:i]+s[i+1:])
	}
	for b := range 256 {
		l = append(l, s+string([]byte{byte(b)}), string([]byte{byte(b)})+s)
	}
	return l
}

// anyNode tells nodes of all kinds that a proof may have: of a tree, empty, with great numbers, with numbers where nothing is counted.
func anyNode(r *rand.Rand) api.Node {
	number := func() int {
		switch r.IntN(8) {
		case 0:
			return top - r.IntN(3)
		case 1:
			return r.IntN(top)
		case 2, 3:
			return 0
		}
		return r.IntN(300)
	}
	switch r.IntN(6) {
	case 0:
		return emptyNode()
	case 1, 2:
		v := r.IntN(api.MaxValue)
		return node1(v, "L"+numberBytes(v))
	case 3:
		return node(0, number(), number(), number(), 1, 77)
	}
	return node(number(), number(), number(), number(), byte(r.IntN(256)), byte(r.IntN(256)))
}

func anyNodes(r *rand.Rand, count int) []api.Node {
	var l []api.Node
	for range count {
		l = append(l, anyNode(r))
	}
	return l
}

// changedText is a text with one byte changed, taken out or put in.
func changedText(r *rand.Rand, s string) string {
	at, b := r.IntN(len(s)+1), string([]byte{byte(r.IntN(256))})
	if r.IntN(3) == 0 {
		b = string([]byte{byte(r.IntN(3))})
	}
	switch {
	case at == len(s) || r.IntN(3) == 0:
		return s[:at] + b + s[at:]
	case r.IntN(2) == 0:
		return s[:at] + s[at+1:]
	}
	return s[:at] + b + s[at+1:]
}

// changedHead has another size or another digest.
func changedHead(r *rand.Rand, h api.Head) api.Head {
	switch r.IntN(4) {
	case 0:
		h.Size += r.IntN(5) - 2
	case 1:
		h.Size = []int{-1, 0, 1, 32, 64, 65}[r.IntN(6)]
	default:
		h.Root[r.IntN(2)] ^= byte(1 + r.IntN(255))
	}
	return h
}

// changed is the question with one thing changed in it.
func (q question) changed(r *rand.Rand) question {
	switch r.IntN(7) {
	case 0:
		q.tree = []int{0, 1, -1, 2}[r.IntN(4)]
	case 1:
		q.h = changedHead(r, q.h)
	case 2:
		q.from += r.IntN(3) - 1
	case 3:
		q.to += r.IntN(3) - 1
	case 4:
		number := []*int{&q.claim.Count, &q.claim.Sum, &q.claim.Min, &q.claim.Max}[r.IntN(4)]
		*number += 1 - 2*r.IntN(2)
	default:
		q.proof = changedText(r, q.proof)
	}
	return q
}

// changed is the growth with one thing changed in it.
func (g growth) changed(r *rand.Rand) growth {
	switch r.IntN(5) {
	case 0:
		g.old = changedHead(r, g.old)
	case 1:
		g.now = changedHead(r, g.now)
	case 2:
		g.old, g.now = g.now, g.old
	default:
		g.proof = changedText(r, g.proof)
	}
	return g
}
