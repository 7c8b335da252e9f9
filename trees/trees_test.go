package trees_test

import (
	"slices"
	"testing"

	"notary/api"
	"notary/trees"
)

func TestCover(t *testing.T) {
	for _, c := range []struct {
		size, from, to int
		want           []trees.Part
	}{
		{0, 0, 0, []trees.Part{{0, 0}}},
		{1, 0, 0, []trees.Part{{0, 1}}},
		{1, 0, 1, []trees.Part{{0, 1}}},
		{3, 0, 3, []trees.Part{{0, 3}}},
		{3, 1, 1, []trees.Part{{0, 3}}},
		{3, 0, 2, []trees.Part{{0, 2}, {2, 3}}},
		{3, 1, 2, []trees.Part{{0, 1}, {1, 2}, {2, 3}}},
		{7, 2, 5, []trees.Part{{0, 2}, {2, 4}, {4, 5}, {5, 6}, {6, 7}}},
		{7, 6, 7, []trees.Part{{0, 4}, {4, 6}, {6, 7}}},
		{32, 5, 6, []trees.Part{{0, 4}, {4, 5}, {5, 6}, {6, 8}, {8, 16}, {16, 32}}},
	} {
		got := slices.Collect(trees.Cover(c.size, trees.Part{From: c.from, To: c.to}))
		if !slices.Equal(got, c.want) {
			t.Errorf("the cover of %d to %d of %d: %v, want %v", c.from, c.to, c.size, got, c.want)
		}
	}
}

// Who ranges over a cover may leave off at any part, and may begin again.
func TestCoverLeftOff(t *testing.T) {
	cover := trees.Cover(64, trees.Part{From: 13, To: 50})
	all := slices.Collect(cover)
	for stop := range all {
		var got []trees.Part
		for p := range cover {
			got = append(got, p)
			if len(got) == stop+1 {
				break
			}
		}
		if !slices.Equal(got, all[:stop+1]) {
			t.Errorf("%d parts: %v, want %v", stop+1, got, all[:stop+1])
		}
	}
}

func TestTogether(t *testing.T) {
	fold := func(count, sum, least, most int) api.Fold {
		return api.Fold{Count: count, Sum: sum, Min: least, Max: most}
	}
	for _, c := range [][3]api.Fold{
		{fold(0, 0, 0, 0), fold(0, 0, 0, 0), fold(0, 0, 0, 0)},
		{fold(0, 0, 0, 0), fold(2, 9, 4, 5), fold(2, 9, 4, 5)},
		{fold(2, 9, 4, 5), fold(0, 0, 0, 0), fold(2, 9, 4, 5)},
		{fold(2, 9, 4, 5), fold(1, 7, 7, 7), fold(3, 16, 4, 7)},
		{fold(1, 7, 7, 7), fold(2, 9, 4, 5), fold(3, 16, 4, 7)},
		{fold(1, 0, 0, 0), fold(1, 7, 7, 7), fold(2, 7, 0, 7)},
		// folds of no values, as a wrong proof may have them
		{fold(0, 3, 8, 9), fold(2, 9, 4, 5), fold(2, 12, 4, 5)},
		{fold(2, 9, 4, 5), fold(0, 3, 1, 9), fold(2, 12, 4, 5)},
		{fold(0, 3, 8, 9), fold(0, 4, 5, 6), fold(0, 7, 5, 6)},
	} {
		if got := trees.Together(c[0], c[1]); got != c[2] {
			t.Errorf("%v and %v: %v, want %v", c[0], c[1], got, c[2])
		}
	}
}

func TestApartAndWithin(t *testing.T) {
	for _, c := range []struct {
		p, r          trees.Part
		apart, within bool
	}{
		{trees.Part{From: 2, To: 4}, trees.Part{From: 2, To: 4}, false, true},
		{trees.Part{From: 2, To: 4}, trees.Part{From: 1, To: 5}, false, true},
		{trees.Part{From: 2, To: 4}, trees.Part{From: 3, To: 5}, false, false},
		{trees.Part{From: 2, To: 4}, trees.Part{From: 1, To: 3}, false, false},
		{trees.Part{From: 2, To: 4}, trees.Part{From: 4, To: 5}, true, false},
		{trees.Part{From: 2, To: 4}, trees.Part{From: 0, To: 2}, true, false},
		{trees.Part{From: 2, To: 4}, trees.Part{From: 3, To: 3}, true, false},
		{trees.Part{From: 0, To: 1}, trees.Part{From: 0, To: 0}, true, false},
		// an empty range has no part, not even that of a log without entries
		{trees.Part{From: 0, To: 0}, trees.Part{From: 0, To: 0}, true, false},
	} {
		if a, w := c.p.Apart(c.r), c.p.Within(c.r); a != c.apart || w != c.within {
			t.Errorf("%v in %v: apart %v, within %v", c.p, c.r, a, w)
		}
	}
}

// The source of a proof knows the parts of the cover, each by its own node, and no other part.
func TestOfProof(t *testing.T) {
	for _, c := range []struct {
		size int
		r    trees.Part
	}{
		{0, trees.Part{From: 0, To: 0}},
		{1, trees.Part{From: 0, To: 1}},
		{3, trees.Part{From: 1, To: 2}},
		{7, trees.Part{From: 2, To: 5}},
		{64, trees.Part{From: 13, To: 50}},
	} {
		cover := slices.Collect(trees.Cover(c.size, c.r))
		var nodes []api.Node
		for i := range cover {
			nodes = append(nodes, api.Node{Fold: api.Fold{Count: i}})
		}
		of, fits := trees.OfProof(c.size, c.r, nodes)
		if !fits {
			t.Fatalf("%d nodes for %d parts do not fit", len(nodes), len(cover))
		}
		for from := range c.size + 1 {
			for to := from; to <= c.size; to++ {
				p := trees.Part{From: from, To: to}
				i := slices.Index(cover, p)
				if n, known := of(p); known != (i >= 0) || known && n != nodes[i] {
					t.Errorf("%v of the cover %v: %v, %v", p, cover, n, known)
				}
			}
		}
		for _, other := range [][]api.Node{nil, nodes[1:], nodes[:len(nodes)-1], append(nodes, api.Node{})} {
			if of, fits := trees.OfProof(c.size, c.r, other); of != nil || fits {
				t.Errorf("%d nodes for %d parts fit", len(other), len(cover))
			}
		}
	}
}

// What is handed in may be written into behind the call.
func TestOfProofKeepsNothing(t *testing.T) {
	nodes := []api.Node{{Fold: api.Fold{Count: 1}}, {Fold: api.Fold{Count: 2}}, {Fold: api.Fold{Count: 3}}}
	of, _ := trees.OfProof(2, trees.Part{From: 0, To: 1}, nodes[:2])
	clear(nodes)
	for i := range 2 {
		if n, known := of(trees.Part{From: i, To: i + 1}); n.Fold.Count != i+1 || !known {
			t.Errorf("the node %d is %v, %v", i, n, known)
		}
	}
}

// By the nodes of a proof the whole is the same as by the values, and so is each beginning.
func TestNodeOfProof(t *testing.T) {
	var values []int
	for size := range 65 {
		log := trees.OfLog(values)
		whole := trees.Part{From: 0, To: size}
		for to := range size + 1 {
			r := trees.Part{From: 0, To: to}
			fold, nodes := trees.Prove(size, r, log)
			of, _ := trees.OfProof(size, r, nodes)
			if got, want := trees.Node(whole, of), trees.Node(whole, log); got != want {
				t.Errorf("all of %d by the proof of %d: %v, want %v", size, to, got, want)
			}
			if to > 0 && trees.Node(r, of) != trees.Node(r, log) {
				t.Errorf("%d of %d: %v, want %v", to, size, trees.Node(r, of), trees.Node(r, log))
			}
			if got, _ := trees.Prove(size, r, of); got != fold {
				t.Errorf("the fold of %d of %d: %v, want %v", to, size, got, fold)
			}
		}
		values = append(values, size*37%64)
	}
}

// Two logs with one head: by other entries that are digested alike, above or below one node. The values were worked out apart from this program.
func TestClash(t *testing.T) {
	for _, c := range []struct {
		told, kept    []int
		first, second string
	}{
		{[]int{10752}, []int{5}, "H\x01\x01\x80\x54\x80\x54\x80\x54\x72\xf9", "H\x01\x01\x05\x05\x05\x5d\x61"},
		{[]int{118, 498}, []int{498, 118}, "I\x01\x76\x76\x76\x5d\xd2\x01\xf2\x03\xf2\x03\xf2\x03\xe7\xc6", "I\x01\xf2\x03\xf2\x03\xf2\x03\xe7\xc6\x01\x76\x76\x76\x5d\xd2"},
		{[]int{7, 8, 32, 1137}, []int{7, 8, 1137, 32}, "I\x01\x20\x20\x20\x5d\x7c\x01\xf1\x08\xf1\x08\xf1\x08\xe6\xc4", "I\x01\xf1\x08\xf1\x08\xf1\x08\xe6\xc4\x01\x20\x20\x20\x5d\x7c"},
		{[]int{32, 1137, 7}, []int{1137, 32, 7}, "I\x01\x20\x20\x20\x5d\x7c\x01\xf1\x08\xf1\x08\xf1\x08\xe6\xc4", "I\x01\xf1\x08\xf1\x08\xf1\x08\xe6\xc4\x01\x20\x20\x20\x5d\x7c"},
	} {
		size := len(c.told)
		told, kept := trees.OfLog(c.told), trees.OfLog(c.kept)
		if first, second, found := trees.Clash(size, told, kept); first != c.first || second != c.second || !found {
			t.Errorf("%v and %v: %q, %q, %v", c.told, c.kept, first, second, found)
		}
		if first, second, found := trees.Clash(size, kept, kept); first != "" || second != "" || found {
			t.Errorf("%v and itself: %q, %q, %v", c.kept, first, second, found)
		}
	}
}

// A tree has no clash with itself, by whatever proof of it.
func TestNoClash(t *testing.T) {
	var values []int
	for size := range 34 {
		log := trees.OfLog(values)
		for to := range size + 1 {
			r := trees.Part{From: to / 2, To: to}
			_, nodes := trees.Prove(size, r, log)
			of, _ := trees.OfProof(size, r, nodes)
			if first, second, found := trees.Clash(size, of, log); first != "" || second != "" || found {
				t.Errorf("%v of %d: %q, %q, %v", r, size, first, second, found)
			}
		}
		values = append(values, size*37%64)
	}
}
