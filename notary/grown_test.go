package notary_test

import (
	"math"
	"testing"

	"notary/api"
	"notary/notary"
)

// The proofs here were worked out apart from this program.
func TestGrown(t *testing.T) {
	whole := "\x01\x03\x11\x03\x09\x31\x13"
	left, nine := "\x01\x02\x08\x03\x05\xb3\x35", "\x01\x01\x09\x09\x09\x5d\x65"
	five, three := "\x01\x01\x05\x05\x05\x5d\x61", "\x01\x01\x03\x03\x03\x5d\x5f"
	s := (&model{log: []int{5, 3, 9}}).storeOf(t)
	for i, want := range []string{five + three + nine, left + nine, whole} {
		if p, e := s.Grown(i + 1); p != want || e != api.OK {
			t.Errorf("Grown(%d) = %q, %d, want %q", i+1, p, e, want)
		}
	}
	seven := (&model{log: []int{0, 1000000, 300, 7, 127, 128, 16384}}).storeOf(t)
	want := "\x01\x04\xf3\x86\x3d\x00\xc0\x84\x3d\x13\x82\x01\x01\x7f\x7f\x7f\x5d\xdb\x01\x01\x80\x01\x80\x01\x80\x01\x72\xa6\x01\x01\x80\x80\x01\x80\x80\x01\x80\x80\x01\x51\xef"
	if p, e := seven.Grown(5); p != want || e != api.OK {
		t.Errorf("Grown(5) = %q, %d, want %q", p, e, want)
	}
}

func TestGrownFromEverySize(t *testing.T) {
	for _, size := range sizes {
		m := squares(size)
		s := m.storeOf(t)
		for old := 1; old <= size; old++ {
			if p, e := s.Grown(old); p != m.proof(api.Log, 0, old) || e != api.OK {
				t.Errorf("Grown(%d) of %d entries = %q, %d, want %q", old, size, p, e, m.proof(api.Log, 0, old))
			}
		}
	}
}

// The nodes of the beginning put together from the right tell the older head, as the document says.
func TestGrownTellsOlderHead(t *testing.T) {
	for _, size := range sizes {
		s := squares(size).storeOf(t)
		for old := 1; old <= size; old++ {
			p, _ := s.Grown(old)
			nodes, _ := notary.Read(p)
			told := headOf(old, beginning(old, size, nodes))
			if h, e := s.Head(api.Log, old); h != told || e != api.OK {
				t.Errorf("the head at %d of %d: %v, %d, its proof tells %v", old, size, h, e, told)
			}
		}
	}
}

func TestGrownNoSize(t *testing.T) {
	for _, size := range []int{0, 1, 3, 63, 64} {
		m := squares(size)
		m.table = tables[7]
		s := m.storeOf(t)
		for _, n := range []int{0, -1, size + 1, 65, math.MinInt, math.MaxInt} {
			if p, e := s.Grown(n); p != "" || e != api.ErrRange {
				t.Errorf("Grown(%d) of %d entries = %q, %d, want error %d", n, size, p, e, api.ErrRange)
			}
		}
		wantHolds(t, s, m)
	}
}
