package notary_test

import (
	"math"
	"math/rand/v2"
	"testing"

	"notary/api"
	"notary/notary"
)

var noValues = []int{-1, api.MaxValue + 1, math.MinInt, math.MaxInt, 1 << 40}

var noKeys = []int{-1, api.Keys, api.Keys + 1, math.MinInt, math.MaxInt}

// heavy is the log, or the table, whose sum is MaxSum.
func heavy() *model {
	m := &model{table: map[int]int{}}
	for i := range 5 {
		m.log = append(m.log, api.MaxValue)
		m.table[i] = api.MaxValue
	}
	return m
}

func TestNewIsEmpty(t *testing.T) {
	s := notary.New()
	if s == nil {
		t.Fatal("New gives no store")
	}
	wantHolds(t, s, &model{})
	for _, size := range []int{0, 32} {
		tree, want := api.Log, api.Digest{186, 13}
		if size == 32 {
			tree, want = api.Table, api.Digest{139, 138}
		}
		if h, e := s.Head(tree, size); h != (api.Head{Size: size, Root: want}) || e != api.OK {
			t.Errorf("Head(%d, %d) = %v, %d, want %v", tree, size, h, e, want)
		}
	}
	if f, p, e := s.Ask(api.Log, 0, 0); f != (api.Fold{}) || p != "\x00" || e != api.OK {
		t.Errorf("Ask(Log, 0, 0) = %v, %q, %d", f, p, e)
	}
	for k := range api.Keys {
		wantError(t, "Delete of a key of an empty table", s.Delete(k), api.ErrKey)
	}
}

func TestAppendLaysBehind(t *testing.T) {
	s, m := notary.New(), &model{}
	for _, v := range []int{0, api.MaxValue, 5, 5, 3, 127, 128, 0, api.MaxValue - 1, 16384, 1} {
		wantOK(t, "Append", s.Append(v))
		m.log = append(m.log, v)
		wantHolds(t, s, m)
	}
}

func TestAppendNoValue(t *testing.T) {
	m := squares(3)
	s := m.storeOf(t)
	for _, v := range noValues {
		wantError(t, "Append of no value", s.Append(v), api.ErrValue)
	}
	wantHolds(t, s, m)
}

func TestAppendFull(t *testing.T) {
	m := squares(api.MaxEntries - 1)
	s := m.storeOf(t)
	wantOK(t, "the 64th", s.Append(7))
	m.log = append(m.log, 7)
	for _, v := range []int{0, 1, api.MaxValue} {
		wantError(t, "the 65th", s.Append(v), api.ErrFull)
	}
	wantHolds(t, s, m)
	wantOK(t, "Set beside a full log", s.Set(0, 1))
}

func TestAppendSum(t *testing.T) {
	m := heavy()
	m.log[4]--
	s := m.storeOf(t)
	wantError(t, "a sum of MaxSum + 1", s.Append(2), api.ErrSum)
	wantError(t, "a sum far above", s.Append(api.MaxValue), api.ErrSum)
	wantHolds(t, s, m)
	wantOK(t, "a sum of MaxSum", s.Append(1))
	wantError(t, "MaxSum and 1", s.Append(1), api.ErrSum)
	wantOK(t, "MaxSum and 0", s.Append(0))
	m.log = append(m.log, 1, 0)
	wantHolds(t, s, m)
}

func TestAppendFirstError(t *testing.T) {
	m := heavy()
	s := m.storeOf(t)
	wantError(t, "no value, and a sum too great", s.Append(api.MaxValue+1), api.ErrValue)
	for range api.MaxEntries - 5 {
		wantOK(t, "Append", s.Append(0))
		m.log = append(m.log, 0)
	}
	wantError(t, "a full log, and a sum too great", s.Append(1), api.ErrFull)
	for _, v := range noValues {
		wantError(t, "no value, and a full log", s.Append(v), api.ErrValue)
	}
	wantHolds(t, s, m)
}

func TestSetLaysUnder(t *testing.T) {
	s, m := notary.New(), &model{table: map[int]int{}}
	for _, c := range [][2]int{{0, 0}, {31, api.MaxValue}, {31, 7}, {16, 0}, {15, 300}, {16, 1}, {16, 0}, {0, api.MaxValue}, {1, 0}, {15, 300}} {
		wantOK(t, "Set", s.Set(c[0], c[1]))
		m.table[c[0]] = c[1]
		wantHolds(t, s, m)
	}
}

func TestSetAllKeys(t *testing.T) {
	m := &model{table: fullTable()}
	wantHolds(t, m.storeOf(t), m)
}

func TestSetNoKeyNoValue(t *testing.T) {
	m := &model{table: map[int]int{0: 4, 31: 0}}
	s := m.storeOf(t)
	for _, k := range noKeys {
		wantError(t, "Set under no key", s.Set(k, 1), api.ErrKey)
	}
	for _, v := range noValues {
		for _, k := range []int{0, 1, 31} {
			wantError(t, "Set of no value", s.Set(k, v), api.ErrValue)
		}
	}
	wantHolds(t, s, m)
}

func TestSetSum(t *testing.T) {
	m := heavy()
	m.table[4]--
	s := m.storeOf(t)
	wantError(t, "a sum of MaxSum + 1", s.Set(31, 2), api.ErrSum)
	wantOK(t, "a sum of MaxSum", s.Set(31, 1))
	wantError(t, "MaxSum and 1", s.Set(30, 1), api.ErrSum)
	wantError(t, "1 more under a key that is set", s.Set(31, 2), api.ErrSum)
	wantError(t, "1 more under another", s.Set(4, api.MaxValue), api.ErrSum)
	m.table[31] = 1
	wantHolds(t, s, m)
	wantOK(t, "MaxSum and 0", s.Set(30, 0))
	wantOK(t, "the same again", s.Set(0, api.MaxValue))
	wantOK(t, "less under a key that is set", s.Set(0, api.MaxValue-3))
	wantError(t, "more than that gave free", s.Set(30, 4), api.ErrSum)
	wantOK(t, "as much as that gave free", s.Set(30, 3))
	m.table[0], m.table[30] = api.MaxValue-3, 3
	wantHolds(t, s, m)
}

func TestSetFirstError(t *testing.T) {
	m := heavy()
	s := m.storeOf(t)
	for _, k := range noKeys {
		for _, v := range noValues {
			wantError(t, "no key, and no value", s.Set(k, v), api.ErrKey)
		}
		wantError(t, "no key, and a sum too great", s.Set(k, 1), api.ErrKey)
	}
	wantError(t, "no value, and a sum too great", s.Set(9, api.MaxValue+1), api.ErrValue)
	wantError(t, "no value, and a sum too great by far", s.Set(9, math.MaxInt), api.ErrValue)
	wantHolds(t, s, m)
}

func TestDeleteTakesOut(t *testing.T) {
	m := &model{table: map[int]int{0: 0, 5: 300, 6: 0, 31: api.MaxValue}}
	s := m.storeOf(t)
	for _, k := range []int{0, 31, 6, 5} {
		wantOK(t, "Delete", s.Delete(k))
		delete(m.table, k)
		wantHolds(t, s, m)
		wantError(t, "Delete again", s.Delete(k), api.ErrKey)
		wantHolds(t, s, m)
	}
	wantOK(t, "Set of a key that was taken out", s.Set(5, 9))
	wantHolds(t, s, &model{table: map[int]int{5: 9}})
	wantOK(t, "Delete of a key that was set again", s.Delete(5))
	wantHolds(t, s, &model{})
}

func TestDeleteNoKey(t *testing.T) {
	m := &model{log: []int{1}, table: map[int]int{0: 4, 31: 0}}
	s := m.storeOf(t)
	for _, k := range append([]int{1, 30}, noKeys...) {
		wantError(t, "Delete of nothing", s.Delete(k), api.ErrKey)
	}
	wantHolds(t, s, m)
}

func TestDeleteGivesFree(t *testing.T) {
	m := heavy()
	s := m.storeOf(t)
	wantError(t, "MaxSum and 1", s.Set(9, 1), api.ErrSum)
	wantOK(t, "Delete", s.Delete(2))
	wantOK(t, "as much as that gave free", s.Set(9, api.MaxValue))
	wantError(t, "and 1", s.Set(2, 1), api.ErrSum)
	delete(m.table, 2)
	m.table[9] = api.MaxValue
	wantHolds(t, s, m)
}

// The two trees of a store have a sum each.
func TestSumsApart(t *testing.T) {
	m := heavy()
	wantHolds(t, m.storeOf(t), m)
}

func TestStoresApart(t *testing.T) {
	a, b := notary.New(), notary.New()
	wantOK(t, "Append", a.Append(5))
	wantOK(t, "Set", a.Set(3, 9))
	wantHolds(t, b, &model{})
	wantError(t, "Delete of another store's key", b.Delete(3), api.ErrKey)
	wantOK(t, "Append", b.Append(6))
	wantOK(t, "Set", b.Set(3, 10))
	wantHolds(t, a, &model{log: []int{5}, table: map[int]int{3: 9}})
	wantHolds(t, b, &model{log: []int{6}, table: map[int]int{3: 10}})
	wantHolds(t, notary.New(), &model{})
}

// change makes one change in a store and in its model, and tells what the store answered and what the model would.
func change(r *rand.Rand, s *notary.Store, m *model) (got, want api.Errno) {
	key, v := r.IntN(api.Keys+2)-1, r.IntN(api.MaxValue*11/10)-api.MaxValue/20
	if r.IntN(2) == 0 {
		v = r.IntN(20)
	}
	isKey, isValue := key >= 0 && key < api.Keys, v >= 0 && v <= api.MaxValue
	switch r.IntN(3) {
	case 0:
		switch {
		case !isValue:
			want = api.ErrValue
		case len(m.log) == api.MaxEntries:
			want = api.ErrFull
		case m.fold(api.Log, 0, len(m.log)).Sum+v > api.MaxSum:
			want = api.ErrSum
		default:
			m.log = append(m.log, v)
		}
		return s.Append(v), want
	case 1:
		switch {
		case !isKey:
			want = api.ErrKey
		case !isValue:
			want = api.ErrValue
		case m.fold(api.Table, 0, api.Keys).Sum-m.table[key]+v > api.MaxSum:
			want = api.ErrSum
		default:
			m.table[key] = v
		}
		return s.Set(key, v), want
	}
	if _, ok := m.table[key]; !ok {
		want = api.ErrKey
	}
	delete(m.table, key)
	return s.Delete(key), want
}

// Many changes in three stores by turns: each holds what was laid into it, and nothing else.
func TestManyChanges(t *testing.T) {
	r := rand.New(rand.NewPCG(1, 2))
	var stores [3]*notary.Store
	var models [3]*model
	for i := range stores {
		stores[i], models[i] = notary.New(), &model{table: map[int]int{}}
	}
	seen := map[api.Errno]int{}
	for n := range 1500 {
		i := r.IntN(len(stores))
		got, want := change(r, stores[i], models[i])
		wantError(t, "a change", got, want)
		seen[want]++
		if n%10 == 0 {
			for j := range stores {
				wantHolds(t, stores[j], models[j])
			}
		}
		if t.Failed() {
			return
		}
	}
	for _, e := range []api.Errno{api.OK, api.ErrValue, api.ErrFull, api.ErrSum, api.ErrKey} {
		if seen[e] == 0 {
			t.Errorf("no change was answered by error %d: the test is too weak", e)
		}
	}
}
