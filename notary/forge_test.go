package notary_test

import (
	"slices"
	"testing"

	"notary/api"
	"notary/notary"
)

// between finds the two bytes that a text must have between these two, so that all of it has the digest want. (Some digests no two bytes give.)
func between(ahead, behind string, want api.Digest) (api.Digest, bool) {
	number := func(d api.Digest) int { return int(d[0])*256 + int(d[1]) }
	// The two bytes a and b add (263 a + b) times this to the digest.
	weight := 1
	for range len(behind) {
		weight = weight * 263 % 65521
	}
	plain := number(digestOf(ahead + "\x00\x00" + behind))
	for c := range 256 * 263 {
		if c%263 < 256 && (plain+c*weight)%65521 == number(want) {
			return api.Digest{byte(c / 263), byte(c % 263)}, true
		}
	}
	return api.Digest{}, false
}

// foldText is the beginning of a node's text, ahead of its digest.
func foldText(f api.Fold) string {
	s := textOf(api.Node{Fold: f})
	return s[:len(s)-2]
}

// halvesOf tells the two parts below a part.
func halvesOf(p [2]int) (left, right [2]int) {
	left = partsOf(p[0], p[1])[1]
	return left, [2]int{left[1], p[1]}
}

// forgePart gives the proof's node at the place free, which lies below the part p, a digest by which p has the digest want. It tells whether there is one.
func forgePart(size, from, to int, nodes []api.Node, free int, p [2]int, want api.Digest) bool {
	at, goal := workedOut(size, from, to, nodes), coverOf(size, from, to)[free]
	for ok := true; p != goal; {
		left, right := halvesOf(p)
		if goal[1] <= left[1] {
			want, ok = between("I"+foldText(at[left].Fold), textOf(at[right]), want)
			p = left
		} else {
			want, ok = between("I"+textOf(at[left])+foldText(at[right].Fold), "", want)
			p = right
		}
		if !ok {
			return false
		}
	}
	nodes[free].Hash = want
	return true
}

// forgeHead gives the proof's node at the place free a digest by which the proof comes to the digest root.
func forgeHead(size, from, to int, nodes []api.Node, free int, root api.Digest) bool {
	whole := [2]int{0, size}
	f := workedOut(size, from, to, nodes)[whole].Fold
	want, ok := between("H"+numberBytes(size)+foldText(f), "", root)
	return ok && forgePart(size, from, to, nodes, free, whole, want)
}

// headPart stands for the head among the parts.
var headPart = [2]int{-1, -1}

// textsOf tells the texts of the head and of those parts of which at has the parts below as well.
func textsOf(size int, at map[[2]int]api.Node) map[[2]int]string {
	texts := map[[2]int]string{headPart: "H" + numberBytes(size) + textOf(at[[2]int{0, size}])}
	for p := range at {
		if p[1]-p[0] < 2 {
			continue
		}
		left, right := halvesOf(p)
		l, ok := at[left]
		if !ok {
			continue
		}
		texts[p] = "I" + textOf(l) + textOf(at[right])
		if l == emptyNode() && at[right] == emptyNode() {
			texts[p] = "E"
		}
	}
	return texts
}

// nodesOf tells the nodes of all parts of the tree that has these places.
func nodesOf(places []api.Node) map[[2]int]api.Node {
	at := map[[2]int]api.Node{}
	for _, p := range partsOf(0, len(places)) {
		at[p] = treeOf(places[p[0]:p[1]])
	}
	return at
}

// clash is a pair of different texts with one digest.
type clash [2]string

// clashesOf tells the clashes between two trees of one size, at the parts above those of which first has none below.
func clashesOf(size int, first, second map[[2]int]api.Node) []clash {
	others := textsOf(size, second)
	var l []clash
	for p, text := range textsOf(size, first) {
		if text != others[p] && digestOf(text) == digestOf(others[p]) {
			l = append(l, clash{text, others[p]})
		}
	}
	return l
}

// wantClash asks for one of these clashes.
func wantClash(t *testing.T, call string, first, second string, e api.Errno, l []clash) {
	t.Helper()
	if e != api.OK || !slices.Contains(l, clash{first, second}) {
		t.Errorf("%s = %q, %q, %d, want one of %q", call, first, second, e, l)
	}
}

// wantNone asks for an error and nothing beside it.
func wantNone(t *testing.T, call string, first, second string, e api.Errno, want api.Errno) {
	t.Helper()
	if first != "" || second != "" || e != want {
		t.Errorf("%s = %q, %q, %d, want error %d", call, first, second, e, want)
	}
}

// extract asks for what the document asks of Extract, with the head that the model has, and tells the error.
func (m *model) extract(t *testing.T, s *notary.Store, q question) api.Errno {
	t.Helper()
	size := api.Keys
	if q.tree != api.Table {
		size = len(m.log)
	}
	first, second, e := s.Extract(q.tree, q.from, q.to, q.claim, q.proof)
	want := api.ErrRange
	if q.tree == api.Log || q.tree == api.Table {
		q.h = m.head(q.tree, size)
		want = q.answer()
	}
	if want == api.OK && q.claim == m.fold(q.tree, q.from, q.to) {
		want = api.ErrTrue
	}
	if want != api.OK {
		wantNone(t, "Extract", first, second, e, want)
		return want
	}
	nodes, _ := notary.Read(q.proof)
	wantClash(t, "Extract", first, second, e, clashesOf(size, workedOut(size, q.from, q.to, nodes), nodesOf(m.places(q.tree))))
	return want
}

// extractGrown asks for what the document asks of ExtractGrown, and tells the error.
func (m *model) extractGrown(t *testing.T, s *notary.Store, old []int, proof string) api.Errno {
	t.Helper()
	first, second, e := s.ExtractGrown(old, proof)
	want := m.extractGrownError(old, proof)
	if want != api.OK {
		wantNone(t, "ExtractGrown", first, second, e, want)
		return want
	}
	size, now := len(old), len(m.log)
	nodes, _ := notary.Read(proof)
	l := clashesOf(now, workedOut(now, 0, size, nodes), nodesOf(m.places(api.Log)))
	l = append(l, clashesOf(size, nodesOf((&model{log: old}).places(api.Log)), nodesOf(m.places(api.Log)[:size]))...)
	wantClash(t, "ExtractGrown", first, second, e, l)
	return want
}

func (m *model) extractGrownError(old []int, proof string) api.Errno {
	size, now := len(old), len(m.log)
	if size == 0 || size > now || slices.Min(old) < 0 || slices.Max(old) > 1000000 {
		return api.ErrRange
	}
	e := growth{(&model{log: old}).head(api.Log, size), m.head(api.Log, now), proof}.answer()
	if e == api.OK && slices.Equal(old, m.log[:size]) {
		return api.ErrTrue
	}
	return e
}
