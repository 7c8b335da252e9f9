package notary_test

import (
	"math"
	"testing"

	"notary/api"
)

// The digests here were worked out apart from this program.
func TestHeadOfLog(t *testing.T) {
	for _, c := range []struct {
		m    *model
		size int
		root api.Digest
	}{
		{&model{log: []int{5, 3, 9}}, 0, api.Digest{186, 13}},
		{&model{log: []int{5, 3, 9}}, 1, api.Digest{98, 252}},
		{&model{log: []int{5, 3, 9}}, 2, api.Digest{6, 46}},
		{&model{log: []int{5, 3, 9}}, 3, api.Digest{245, 4}},
		{&model{log: []int{0, 1000000, 300, 7, 127, 128, 16384}}, 1, api.Digest{89, 40}},
		{&model{log: []int{0, 1000000, 300, 7, 127, 128, 16384}}, 5, api.Digest{104, 186}},
		{&model{log: []int{0, 1000000, 300, 7, 127, 128, 16384}}, 7, api.Digest{65, 175}},
		{squares(64), 8, api.Digest{128, 135}},
		{squares(64), 9, api.Digest{18, 21}},
		{squares(64), 15, api.Digest{57, 215}},
		{squares(64), 16, api.Digest{28, 189}},
		{squares(64), 17, api.Digest{198, 210}},
		{squares(64), 31, api.Digest{39, 202}},
		{squares(64), 32, api.Digest{126, 154}},
		{squares(64), 33, api.Digest{77, 134}},
		{squares(64), 63, api.Digest{70, 143}},
		{squares(64), 64, api.Digest{143, 105}},
	} {
		want := api.Head{Size: c.size, Root: c.root}
		if h, e := c.m.storeOf(t).Head(api.Log, c.size); h != want || e != api.OK {
			t.Errorf("the head of %v at %d: %v, %d, want %v", c.m.log, c.size, h, e, want)
		}
	}
}

// As it grows, a log keeps the heads of its older sizes.
func TestHeadOfOlderLog(t *testing.T) {
	m := squares(0)
	s := m.storeOf(t)
	for range api.MaxEntries {
		v := 64 - len(m.log)
		wantOK(t, "Append", s.Append(v))
		m.log = append(m.log, v)
		wantHeads(t, s, m)
	}
}

func TestHeadOfTable(t *testing.T) {
	thousands := map[int]int{}
	for k := range api.Keys {
		thousands[k] = k * 1000
	}
	for _, c := range []struct {
		table map[int]int
		root  api.Digest
	}{
		{nil, api.Digest{139, 138}},
		{map[int]int{0: 0}, api.Digest{124, 123}},
		{map[int]int{31: api.MaxValue}, api.Digest{219, 42}},
		{map[int]int{0: 0, 31: 7}, api.Digest{86, 239}},
		{map[int]int{5: 300}, api.Digest{242, 52}},
		{map[int]int{5: 300, 6: 0}, api.Digest{85, 91}},
		{thousands, api.Digest{188, 176}},
	} {
		want := api.Head{Size: 32, Root: c.root}
		if h, e := (&model{table: c.table}).storeOf(t).Head(api.Table, 32); h != want || e != api.OK {
			t.Errorf("the head of %v: %v, %d, want %v", c.table, h, e, want)
		}
	}
	for _, table := range tables {
		m := &model{log: []int{1}, table: table}
		wantHeads(t, m.storeOf(t), m)
	}
}

func TestHeadNoSize(t *testing.T) {
	for _, size := range []int{0, 3, 32, 64} {
		m := squares(size)
		m.table = tables[5]
		s := m.storeOf(t)
		wrong := [][2]int{{api.Log, -1}, {api.Log, size + 1}, {api.Log, math.MinInt}, {api.Log, math.MaxInt}}
		for _, n := range []int{-1, 0, 1, 3, 31, 33, 64, math.MinInt, math.MaxInt} {
			wrong = append(wrong, [2]int{api.Table, n})
		}
		for _, tree := range noTrees {
			wrong = append(wrong, [2]int{tree, 0}, [2]int{tree, size}, [2]int{tree, 32}, [2]int{tree, -1})
		}
		for _, q := range wrong {
			if h, e := s.Head(q[0], q[1]); h != (api.Head{}) || e != api.ErrRange {
				t.Errorf("Head(%v) = %v, %d, want error %d", q, h, e, api.ErrRange)
			}
		}
		wantHolds(t, s, m)
	}
}
