package notary_test

import (
	"math"
	"math/rand/v2"
	"slices"
	"strings"
	"testing"

	"notary/api"
	"notary/notary"
)

// alike has pairs of values that come to the same node in either order. They were worked out apart from this program.
var alike = [][2]int{{498, 118}, {1137, 32}, {1295, 45}}

func wantNoExtractGrown(t *testing.T, s *notary.Store, old []int, proof string, want api.Errno) {
	t.Helper()
	first, second, e := s.ExtractGrown(old, proof)
	wantNone(t, "ExtractGrown", first, second, e, want)
}

// The values and digests here were worked out apart from this program.
func TestExtractGrown(t *testing.T) {
	const (
		five   = "\x01\x05\x05\x05\x5d\x61"
		three  = "\x01\x03\x03\x03\x5d\x5f"
		other  = "\x01\x80\x54\x80\x54\x80\x54\x72\xf9" // of the value 10752
		none   = "\x01\x06\x05\x05\x42\x39"             // of no value
		great  = "\x01\xf2\x03\xf2\x03\xf2\x03\xe7\xc6" // of 498
		little = "\x01\x76\x76\x76\x5d\xd2"             // of 118
	)
	hash := digestOf("I" + great + little)
	pair := "\x01\x02\xe8\x04\x76\xf2\x03" + string(hash[:])
	for _, c := range []struct {
		log, old []int
		proof    string
		want     []clash
	}{
		{[]int{5}, []int{10752}, "\x01" + five, []clash{{"H\x01" + other, "H\x01" + five}}},
		{[]int{5}, []int{10752}, "\x01" + other, []clash{{"H\x01" + other, "H\x01" + five}}},
		{[]int{5}, []int{10752}, "\x01" + none, []clash{{"H\x01" + other, "H\x01" + five}, {"H\x01" + none, "H\x01" + five}}},
		{[]int{10752}, []int{5}, "\x01" + none, []clash{{"H\x01" + five, "H\x01" + other}, {"H\x01" + none, "H\x01" + other}}},
		{[]int{5, 3}, []int{10752}, "\x01" + five + "\x01" + three, []clash{{"H\x01" + other, "H\x01" + five}}},
		{[]int{498, 118}, []int{118, 498}, pair, []clash{{"I" + little + great, "I" + great + little}}},
		{[]int{118, 498}, []int{498, 118}, pair, []clash{{"I" + great + little, "I" + little + great}}},
		{[]int{118, 498, 5}, []int{498, 118}, pair + "\x01" + five, []clash{{"I" + great + little, "I" + little + great}}},
	} {
		s := (&model{log: c.log}).storeOf(t)
		first, second, e := s.ExtractGrown(c.old, c.proof)
		wantClash(t, "ExtractGrown", first, second, e, c.want)
		wantNoExtractGrown(t, s, c.log[:len(c.old)], c.proof, api.ErrTrue)
	}
}

// changedFor is the nodes of the log's proof, but with those of old in the beginning.
func (m *model) changedFor(old []int) []api.Node {
	return (&model{log: slices.Concat(old, m.log[len(old):])}).proofNodes(api.Log, 0, len(old))
}

// behind tells the places of those nodes whose parts lie behind the beginning.
func behind(size, now int) []int {
	var l []int
	for i, p := range coverOf(now, 0, size) {
		if p[0] >= size {
			l = append(l, i)
		}
	}
	return l
}

// forgeBehind changes nodes behind the beginning so that they come to the log's head.
func (m *model) forgeBehind(nodes []api.Node, size int) bool {
	now := len(m.log)
	for _, free := range behind(size, now) {
		for range 9 {
			if forgeHead(now, 0, size, nodes, free, m.head(api.Log, now).Root) {
				return true
			}
			nodes[free].Fold.Sum++
		}
	}
	return false
}

// A log with one other value, and a proof that tells its head and the newer one's.
func TestExtractGrownWrongBehind(t *testing.T) {
	for _, now := range sizes {
		m := squares(now)
		s := m.storeOf(t)
		for size := 1; size < now; size++ {
			for _, i := range []int{0, size / 2, size - 1} {
				old := slices.Clone(m.log[:size])
				old[i] += 1 + i%3
				nodes := m.changedFor(old)
				if !m.forgeBehind(nodes, size) {
					t.Fatalf("%d of %d: no proof was forged", size, now)
				}
				wantError(t, "ExtractGrown", m.extractGrown(t, s, old, proofOf(nodes...)), api.OK)
				// by this proof the log's own beginning has another head
				wantNoExtractGrown(t, s, m.log[:size], proofOf(nodes...), api.ErrRoot)
			}
		}
		wantHolds(t, s, m)
	}
}

// swapped tells the log's beginning with the values at i and j in each other's place.
func (m *model) swapped(size, i, j int) []int {
	old := slices.Clone(m.log[:size])
	old[i], old[j] = old[j], old[i]
	return old
}

// A log that comes to the same as the beginning in another order: the proof may have the log's own node at any part above the change.
func TestExtractGrownEachPart(t *testing.T) {
	for _, c := range [][2]int{{2, 3}, {3, 4}, {5, 6}, {5, 7}, {6, 7}, {7, 8}, {7, 11}, {10, 11}, {11, 13}, {21, 42}, {31, 33}, {63, 64}, {33, 64}} {
		size, now := c[0], c[1]
		m := squares(now)
		s := m.storeOf(t)
		seen := map[[2]int]bool{}
		for i := range size {
			for j := range i {
				old := m.swapped(size, i, j)
				for p := range workedOut(now, 0, size, m.changedFor(old)) {
					if p[0] > j || p[1] <= size || seen[p] {
						continue
					}
					nodes := m.changedFor(old)
					for _, free := range behind(size, now) {
						if coverOf(now, 0, size)[free][1] > p[1] || !forgePart(now, 0, size, nodes, free, p, treeOf(m.places(api.Log)[p[0]:p[1]]).Hash) {
							continue
						}
						seen[p] = true
						wantError(t, "ExtractGrown", m.extractGrown(t, s, old, proofOf(nodes...)), api.OK)
						break
					}
				}
			}
		}
		for p := range workedOut(now, 0, size, m.proofNodes(api.Log, 0, size)) {
			if above := p[0] < size-1 && p[1] > size; above && !seen[p] {
				t.Errorf("%v of %v was not forged: the test is too weak", p, c)
			}
		}
	}
}

// The proof is the log's own, and old differs in two values below one node.
func TestExtractGrownOwnProof(t *testing.T) {
	for _, now := range sizes {
		for i := 0; i+1 < now; i += 2 {
			m, pair := squares(now), alike[i/2%len(alike)]
			m.log[i], m.log[i+1] = pair[0], pair[1]
			s := m.storeOf(t)
			for _, size := range []int{i + 2, (i + 2 + now) / 2, now} {
				wantError(t, "ExtractGrown", m.extractGrown(t, s, m.swapped(size, i, i+1), m.proof(api.Log, 0, size)), api.OK)
			}
		}
	}
}

// sameHead finds another last value for old, by which it has the head of the log's first entries. It tells whether there is one.
func (m *model) sameHead(old []int) bool {
	size := len(old)
	// The parts beside the way to the last entry lie all on the left.
	var beside []api.Node
	places := (&model{log: old}).places(api.Log)
	for p := [2]int{0, size}; p[1]-p[0] > 1; {
		left, right := halvesOf(p)
		beside = append(beside, treeOf(places[left[0]:left[1]]))
		p = right
	}
	want := m.head(api.Log, size)
	for v := range api.MaxValue + 1 {
		n := node1(v, "L"+numberBytes(v))
		for _, l := range slices.Backward(beside) {
			n = aboveTwo(l, n)
		}
		old[size-1] = v
		if headOf(size, n) == want && !slices.Equal(old, m.log[:size]) {
			return true
		}
	}
	return false
}

// otherLog finds a log with the head of the log's first entries, of values near this one but for the last.
func (m *model) otherLog(t *testing.T, size int, near int) []int {
	t.Helper()
	for d := range 9 {
		old := slices.Repeat([]int{near}, size)
		old[0] = near + d
		if near > 0 {
			old[0] = near - d
		}
		if m.sameHead(old) {
			return old
		}
	}
	t.Fatalf("no log of %d entries near %d was found", size, near)
	return nil
}

// The proof is the log's own, and old has the same head by chance. The sum of its values is of no account.
func TestExtractGrownSameHead(t *testing.T) {
	for _, size := range []int{1, 2, 6, 7, 64} {
		for _, near := range []int{0, api.MaxValue} {
			m := squares(size)
			old := m.otherLog(t, size, near)
			// where the beginning is all, old's own node does as well
			wantError(t, "ExtractGrown", m.extractGrown(t, m.storeOf(t), old, proofOf(treeOf((&model{log: old}).places(api.Log)))), api.OK)
			for now := size; now <= api.MaxEntries; now += 1 + now/2 {
				m.log = append(m.log, make([]int, now-len(m.log))...)
				wantError(t, "ExtractGrown", m.extractGrown(t, m.storeOf(t), old, m.proof(api.Log, 0, size)), api.OK)
			}
		}
	}
}

// The sum of old's values may be above that of a log.
func TestExtractGrownGreatSum(t *testing.T) {
	m := squares(64)
	s := m.storeOf(t)
	for size := 6; size <= 64; size++ {
		old := slices.Repeat([]int{api.MaxValue}, size)
		wantNoExtractGrown(t, s, old, m.proof(api.Log, 0, size), api.ErrRoot)
		if size == 64 {
			continue
		}
		nodes := m.changedFor(old)
		if !m.forgeBehind(nodes, size) {
			t.Fatalf("%d: no proof was forged", size)
		}
		wantError(t, "ExtractGrown", m.extractGrown(t, s, old, proofOf(nodes...)), api.OK)
	}
	wantHolds(t, s, m)
}

// The proof's beginning is neither old's nor the log's.
func TestExtractGrownNeither(t *testing.T) {
	count := 0
	for _, now := range sizes {
		m := squares(now)
		s := m.storeOf(t)
		for size := 1; size < now; size++ {
			old := m.swapped(size, 0, size/2)
			nodes := m.changedFor(old)
			// The parts of the beginning are those of the cover of a range in the older log itself.
			begin := size - size&-size
			first := len(coverOf(size, 0, begin))
			nodes[first-1].Fold.Min++
			if !forgeHead(size, 0, begin, nodes[:first], first-1, (&model{log: old}).head(api.Log, size).Root) || !m.forgeBehind(nodes, size) {
				continue
			}
			want := api.OK
			if slices.Equal(old, m.log[:size]) {
				want = api.ErrTrue
			}
			count++
			wantError(t, "ExtractGrown", m.extractGrown(t, s, old, proofOf(nodes...)), want)
		}
	}
	if count < 300 {
		t.Errorf("%d proofs were forged: the test is too weak", count)
	}
}

func TestExtractGrownTrue(t *testing.T) {
	for _, now := range sizes {
		m := squares(now)
		s := m.storeOf(t)
		for size := 1; size <= now; size++ {
			wantNoExtractGrown(t, s, m.log[:size], m.proof(api.Log, 0, size), api.ErrTrue)
		}
	}
	// also by a proof that is wrong behind the beginning
	m := squares(13)
	s := m.storeOf(t)
	for size := 1; size < 13; size++ {
		nodes := m.proofNodes(api.Log, 0, size)
		nodes[len(nodes)-1].Fold.Sum++
		if !m.forgeBehind(nodes, size) {
			t.Fatalf("%d: no proof was forged", size)
		}
		wantCheckGrown(t, growth{m.head(api.Log, size), m.head(api.Log, 13), proofOf(nodes...)}, api.OK)
		wantNoExtractGrown(t, s, m.log[:size], proofOf(nodes...), api.ErrTrue)
	}
}

// Lists that are no log's beginning, with proofs that could be read and with others.
func TestExtractGrownNoRange(t *testing.T) {
	for _, now := range []int{0, 1, 2, 7, 63, 64} {
		m := squares(now)
		s := m.storeOf(t)
		lists := [][]int{
			nil, {}, make([]int, 0, 9), make([]int, now+1), make([]int, now+2), make([]int, 65), make([]int, 1<<20),
			append(slices.Clone(m.log), 0), slices.Repeat([]int{-1}, now+1),
		}
		for _, i := range []int{0, now / 2, now - 1} {
			for _, v := range []int{-1, api.MaxValue + 1, math.MinInt, math.MaxInt, 1 << 32, -1 << 32} {
				if i >= 0 && i < now {
					l := slices.Clone(m.log)
					l[i] = v
					lists = append(lists, l, l[:i+1])
				}
			}
		}
		for _, l := range lists {
			for _, p := range []string{"", "\x00", "\x03", m.proof(api.Log, 0, now), strings.Repeat("\x00", 65), strings.Repeat("\x01", 1<<20)} {
				wantNoExtractGrown(t, s, l, p, api.ErrRange)
			}
		}
		wantHolds(t, s, m)
	}
}

// The least and the greatest value are values.
func TestExtractGrownEdgeValues(t *testing.T) {
	m := &model{log: []int{0, api.MaxValue, 7}}
	s := m.storeOf(t)
	for size := 1; size <= 3; size++ {
		wantNoExtractGrown(t, s, m.log[:size], m.proof(api.Log, 0, size), api.ErrTrue)
		for _, v := range []int{0, api.MaxValue} {
			wantNoExtractGrown(t, s, slices.Repeat([]int{v}, size), "\x03", api.ErrBytes)
		}
	}
}

// Each error ahead of those that are named behind it. The cover of 0 to 5 of 7 has four parts.
func TestExtractGrownFirstError(t *testing.T) {
	m := squares(7)
	s := m.storeOf(t)
	good, great := m.proof(api.Log, 0, 5), node(1, top, 1, 1, 1, 1)
	for want, proofs := range map[api.Errno][]string{
		api.ErrBytes: {"\x02", "\x01", good + "\x02", strings.Repeat("\x00", 65), strings.Repeat("\x00", 1001), strings.Repeat("\x01", 1<<20)},
		api.ErrCount: {"", "\x00", proofOf(great, great), proofOf(times(great, 5)...), strings.Repeat("\x00", 64)},
		api.ErrNode:  {proofOf(times(great, 4)...), proofOf(great, emptyNode(), emptyNode(), great), proofOf(great, great, emptyNode(), emptyNode())},
		api.ErrRoot:  {"\x00\x00\x00\x00", proofOf(great, emptyNode(), emptyNode(), emptyNode())},
	} {
		for _, p := range proofs {
			wantNoExtractGrown(t, s, m.log[:5], p, want)
			wantNoExtractGrown(t, s, m.swapped(5, 0, 4), p, want)
			wantNoExtractGrown(t, s, slices.Repeat([]int{api.MaxValue}, 5), p, want)
			wantNoExtractGrown(t, s, []int{0, 1, 4, 9, -1}, p, api.ErrRange)
		}
	}
	wantNoExtractGrown(t, s, m.log[:5], good, api.ErrTrue)
	wantNoExtractGrown(t, s, m.swapped(5, 0, 4), good, api.ErrRoot)
	// a proof for another size
	wantNoExtractGrown(t, s, m.log[:4], good, api.ErrCount)
	wantNoExtractGrown(t, s, m.log[:6], good, api.ErrCount)
	wantHolds(t, s, m)
}

// A list that is handed in stays as it is, its spare room too, and may be written into behind the call.
func TestExtractGrownKeepsNothing(t *testing.T) {
	m := squares(6)
	m.log[2], m.log[3] = 498, 118
	s := m.storeOf(t)
	for size := 1; size <= 6; size++ {
		for _, old := range [][]int{slices.Clone(m.log), append(m.swapped(4, 2, 3), m.log[4:]...)} {
			room := append(slices.Clone(old), 77, 78, 79)
			same := slices.Clone(room)
			first, second, e := s.ExtractGrown(room[:size], m.proof(api.Log, 0, size))
			if !slices.Equal(room, same) {
				t.Errorf("%v was made of %v", room, same)
			}
			clear(room)
			wantHolds(t, s, m)
			again, more, f := s.ExtractGrown(old[:size], m.proof(api.Log, 0, size))
			if first != again || second != more || e != f {
				t.Errorf("ExtractGrown = %q, %q, %d, then %q, %q, %d", first, second, e, again, more, f)
			}
		}
	}
	wantOK(t, "Append", s.Append(3))
	m.log = append(m.log, 3)
	wantHolds(t, s, m)
}

// anyOld is a list that is, or nearly is, a beginning of the log.
func (m *model) anyOld(r *rand.Rand) []int {
	old := slices.Clone(m.log[:r.IntN(len(m.log)+1)])
	if r.IntN(20) == 0 {
		old = append(old, 1, 2, 3)
	}
	for range r.IntN(3) {
		if len(old) == 0 {
			break
		}
		i, j := r.IntN(len(old)), r.IntN(len(old))
		old[i], old[j] = old[j], old[i]
		if r.IntN(3) == 0 {
			old[i] = []int{0, 1, api.MaxValue, r.IntN(api.MaxValue), r.IntN(200), -1, api.MaxValue + 1}[r.IntN(7)]
		}
	}
	return old
}

// Lists and proofs of all kinds, most of which come to the heads.
func TestExtractGrownMany(t *testing.T) {
	r := rand.New(rand.NewPCG(9, 10))
	seen := map[api.Errno]int{}
	for range 4000 {
		m := anyModel(r)
		old := m.anyOld(r)
		proof := ""
		if len(old) <= len(m.log) && len(old) > 0 && slices.Min(old) >= 0 {
			nodes := m.changedFor(old)
			for range r.IntN(9) / 6 {
				nodes[r.IntN(len(nodes))] = anyNode(r)
			}
			m.forgeBehind(nodes, len(old))
			if r.IntN(20) == 0 {
				nodes = nodes[1:]
			}
			proof = proofOf(nodes...)
		}
		if r.IntN(5) == 0 {
			proof = changedText(r, proof)
		}
		seen[m.extractGrown(t, m.storeOf(t), old, proof)]++
		if t.Failed() {
			return
		}
	}
	for _, e := range []api.Errno{api.OK, api.ErrRange, api.ErrBytes, api.ErrCount, api.ErrNode, api.ErrRoot, api.ErrTrue} {
		if seen[e] < 20 {
			t.Errorf("%d lists were answered by error %d: the test is too weak", seen[e], e)
		}
	}
}
