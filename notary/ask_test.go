package notary_test

import (
	"math"
	"testing"

	"notary/api"
	"notary/notary"
)

// asked is a question and its answer.
type asked struct {
	from, to int
	fold     api.Fold
	proof    string
}

// wantAsked asks that a store tells these answers, and that they are taken with the head.
func wantAsked(t *testing.T, s *notary.Store, tree int, h api.Head, l []asked) {
	t.Helper()
	for _, q := range l {
		if f, p, e := s.Ask(tree, q.from, q.to); f != q.fold || p != q.proof || e != api.OK {
			t.Errorf("Ask(%d, %d, %d) = %v, %q, %d, want %v, %q", tree, q.from, q.to, f, p, e, q.fold, q.proof)
		}
		wantCheck(t, question{tree, h, q.from, q.to, q.fold, q.proof}, api.OK)
	}
}

// The proofs and heads here were worked out apart from this program.
func TestAskLog(t *testing.T) {
	whole := "\x01\x03\x11\x03\x09\x31\x13"
	left, nine := "\x01\x02\x08\x03\x05\xb3\x35", "\x01\x01\x09\x09\x09\x5d\x65"
	five, three := "\x01\x01\x05\x05\x05\x5d\x61", "\x01\x01\x03\x03\x03\x5d\x5f"
	wantAsked(t, (&model{log: []int{5, 3, 9}}).storeOf(t), api.Log, api.Head{Size: 3, Root: api.Digest{245, 4}}, []asked{
		{0, 3, api.Fold{Count: 3, Sum: 17, Min: 3, Max: 9}, whole},
		{0, 0, api.Fold{}, whole},
		{1, 1, api.Fold{}, whole},
		{3, 3, api.Fold{}, whole},
		{0, 1, api.Fold{Count: 1, Sum: 5, Min: 5, Max: 5}, five + three + nine},
		{1, 2, api.Fold{Count: 1, Sum: 3, Min: 3, Max: 3}, five + three + nine},
		{1, 3, api.Fold{Count: 2, Sum: 12, Min: 3, Max: 9}, five + three + nine},
		{0, 2, api.Fold{Count: 2, Sum: 8, Min: 3, Max: 5}, left + nine},
		{2, 3, api.Fold{Count: 1, Sum: 9, Min: 9, Max: 9}, left + nine},
	})
	wantAsked(t, (&model{log: []int{0, 1000000, 300, 7, 127, 128, 16384}}).storeOf(t), api.Log, api.Head{Size: 7, Root: api.Digest{65, 175}}, []asked{
		{0, 7, api.Fold{Count: 7, Sum: 1016946, Min: 0, Max: 1000000}, "\x01\x07\xf2\x88\x3e\x00\xc0\x84\x3d\x6a\xd2"},
		{2, 5, api.Fold{Count: 3, Sum: 434, Min: 7, Max: 300}, "\x01\x02\xc0\x84\x3d\x00\xc0\x84\x3d\x2f\x57\x01\x02\xb3\x02\x07\xac\x02\x80\xa5\x01\x01\x7f\x7f\x7f\x5d\xdb\x01\x01\x80\x01\x80\x01\x80\x01\x72\xa6\x01\x01\x80\x80\x01\x80\x80\x01\x80\x80\x01\x51\xef"},
		{6, 7, api.Fold{Count: 1, Sum: 16384, Min: 16384, Max: 16384}, "\x01\x04\xf3\x86\x3d\x00\xc0\x84\x3d\x13\x82\x01\x02\xff\x01\x7f\x80\x01\x0d\x13\x01\x01\x80\x80\x01\x80\x80\x01\x80\x80\x01\x51\xef"},
	})
}

func TestAskTable(t *testing.T) {
	wantAsked(t, notary.New(), api.Table, api.Head{Size: 32, Root: api.Digest{139, 138}}, []asked{
		{0, 32, api.Fold{}, "\x00"},
		{5, 6, api.Fold{}, "\x00\x00\x00\x00\x00\x00"},
		{7, 7, api.Fold{}, "\x00"},
	})
	whole := "\x01\x02\xac\x02\x00\xac\x02\xd7\x4b"
	wantAsked(t, (&model{table: map[int]int{5: 300, 6: 0}}).storeOf(t), api.Table, api.Head{Size: 32, Root: api.Digest{85, 91}}, []asked{
		{0, 32, api.Fold{Count: 2, Sum: 300, Min: 0, Max: 300}, whole},
		{0, 0, api.Fold{}, whole},
		{32, 32, api.Fold{}, whole},
		{5, 6, api.Fold{Count: 1, Sum: 300, Min: 300, Max: 300}, "\x00\x00\x01\x01\xac\x02\xac\x02\xac\x02\xca\xd6\x01\x01\x00\x00\x00\xa3\x8a\x00\x00"},
		{5, 7, api.Fold{Count: 2, Sum: 300, Min: 0, Max: 300}, "\x00\x00\x01\x01\xac\x02\xac\x02\xac\x02\xca\xd6\x01\x01\x00\x00\x00\x67\x4f\x00\x00\x00"},
		{6, 8, api.Fold{Count: 1, Sum: 0, Min: 0, Max: 0}, "\x00\x01\x01\xac\x02\xac\x02\xac\x02\xd6\xc6\x01\x01\x00\x00\x00\xa3\x8a\x00\x00"},
		{8, 32, api.Fold{}, "\x01\x02\xac\x02\x00\xac\x02\xc6\x61\x00\x00"},
	})
}

// Every range of logs of many sizes.
func TestAskEveryRangeOfLogs(t *testing.T) {
	for _, size := range sizes {
		m := squares(size)
		s := m.storeOf(t)
		for to := range size + 1 {
			for from := range to + 1 {
				wantAsk(t, s, m, api.Log, from, to)
			}
		}
	}
}

// Falling and equal values, and the edges of values: the least is not always the first, nor the greatest the last.
func TestAskOtherValues(t *testing.T) {
	for _, log := range [][]int{
		{9, 8, 7, 6, 5, 4, 3, 2, 1, 0},
		{4, 4, 4, 4, 4, 4, 4},
		{0, 0, 0, 0, 0},
		{api.MaxValue, 0, api.MaxValue, 0, api.MaxValue, api.MaxValue, 0, 0, api.MaxValue},
		{200, 1, 300, 0, 16384, 2, 127},
	} {
		m := &model{log: log}
		s := m.storeOf(t)
		for to := range len(log) + 1 {
			for from := range to + 1 {
				wantAsk(t, s, m, api.Log, from, to)
			}
		}
	}
}

func TestAskEveryRangeOfTables(t *testing.T) {
	for _, table := range tables {
		m := &model{log: []int{8, 9}, table: table}
		s := m.storeOf(t)
		for to := range api.Keys + 1 {
			for from := range to + 1 {
				wantAsk(t, s, m, api.Table, from, to)
			}
		}
	}
}

// A proof of the store can be read, and is written the same again.
func TestAskTellsProof(t *testing.T) {
	s := squares(64).storeOf(t)
	for from := range 65 {
		_, p, _ := s.Ask(api.Log, from, 64)
		nodes, e := notary.Read(p)
		wantOK(t, "Read of a proof", e)
		wantWrite(t, nodes, p)
	}
}

func TestAskNoRange(t *testing.T) {
	for _, size := range []int{0, 1, 3, 32, 64} {
		m := squares(size)
		m.table = tables[7]
		s := m.storeOf(t)
		wrong := [][3]int{
			{api.Log, -1, 0}, {api.Log, -1, size}, {api.Log, -1, -1}, {api.Log, 0, -1}, {api.Log, 1, 0}, {api.Log, size, size - 1},
			{api.Log, 0, size + 1}, {api.Log, size, size + 1}, {api.Log, size + 1, size + 1}, {api.Log, size + 1, size},
			{api.Log, math.MinInt, math.MaxInt}, {api.Log, math.MaxInt, math.MinInt}, {api.Log, 0, math.MaxInt}, {api.Log, math.MinInt, 0}, {api.Log, math.MaxInt, math.MaxInt},
			{api.Table, -1, 0}, {api.Table, -1, 32}, {api.Table, 0, 33}, {api.Table, 32, 33}, {api.Table, 33, 33}, {api.Table, 6, 5}, {api.Table, 32, 31},
			{api.Table, 0, -1}, {api.Table, math.MinInt, 32}, {api.Table, 0, math.MaxInt}, {api.Table, math.MinInt, math.MaxInt},
		}
		for _, tree := range noTrees {
			wrong = append(wrong, [3]int{tree, 0, 0}, [3]int{tree, 0, 1}, [3]int{tree, 1, 0})
		}
		for _, q := range wrong {
			if f, p, e := s.Ask(q[0], q[1], q[2]); f != (api.Fold{}) || p != "" || e != api.ErrRange {
				t.Errorf("Ask(%v) = %v, %q, %d, want error %d", q, f, p, e, api.ErrRange)
			}
		}
		wantHolds(t, s, m)
	}
}
