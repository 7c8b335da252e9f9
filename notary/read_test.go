package notary_test

import (
	"slices"
	"strings"
	"testing"

	"notary/api"
	"notary/notary"
)

func TestReadProofs(t *testing.T) {
	for _, c := range proofs {
		wantRead(t, c.s, c.nodes)
	}
}

func TestReadNumbers(t *testing.T) {
	for place := range 4 {
		for _, c := range numbers {
			wantRead(t, nodeBytes(place, c.s), []api.Node{withNumber(place, c.n)})
		}
	}
}

func TestReadWrongNumbers(t *testing.T) {
	for place := range 4 {
		for _, s := range []string{
			// the last byte is 0, and not the only one
			"\x80\x00", "\xff\x00", "\x80\x80\x00", "\xff\xff\xff\x00", "\x80\x80\x80\x80\x00", "\xff\xff\xff\xff\x00",
			// more than 5 bytes
			"\x80\x80\x80\x80\x80\x01", "\xff\xff\xff\xff\xff\x01", "\x80\x80\x80\x80\x80\x00", "\xff\xff\xff\xff\xff\x00",
			"\xff\xff\xff\xff\xff\x7f", "\x81\x80\x80\x80\x80\x80\x80\x80\x80\x01", strings.Repeat("\xff", 900),
		} {
			wantNoProof(t, nodeBytes(place, s))
			wantNoProof(t, "\x00"+nodeBytes(place, s))
		}
	}
}

func TestReadCutShort(t *testing.T) {
	full := "\x01\xff\xff\xff\xff\x7f\x80\x01\x00\xac\x02\x07\x08"
	wantRead(t, full, []api.Node{node(top, 128, 0, 300, 7, 8)})
	for n := 1; n < len(full); n++ {
		wantNoProof(t, full[:n])
		wantNoProof(t, "\x00"+full[:n])
		wantNoProof(t, full+full[:n])
	}
}

func TestReadByteLeftOver(t *testing.T) {
	full := "\x01\x01\x05\x05\x05\x07\x08"
	for b := 1; b < 256; b++ {
		left := string([]byte{byte(b)})
		for _, s := range []string{left, "\x00" + left, full + left, full + "\x00" + left} {
			wantNoProof(t, s)
		}
	}
	wantRead(t, full+"\x00", []api.Node{node(1, 5, 5, 5, 7, 8), emptyNode()})
}

func TestReadWrongMark(t *testing.T) {
	for b := 2; b < 256; b++ {
		wantNoProof(t, string([]byte{byte(b)})+"\x01\x05\x05\x05\x07\x08")
	}
}

func TestReadEmptyNodeWritten(t *testing.T) {
	written := "\x01\x00\x00\x00\x00\x01\x4d"
	other := "\x01\x00\x00\x00\x00\x01\x4e"
	for _, s := range []string{written, written + "\x00", "\x00" + written, other + written, written + other} {
		wantNoProof(t, s)
	}
	wantRead(t, other+"\x00", []api.Node{node(0, 0, 0, 0, 1, 78), emptyNode()})
}

func TestReadCount(t *testing.T) {
	for _, s := range []string{"\x00", "\x01\x01\x00\x00\x00\x01\x01"} {
		if nodes, e := notary.Read(strings.Repeat(s, 64)); len(nodes) != 64 || e != api.OK {
			t.Errorf("P5: 64 nodes: %d, %d", len(nodes), e)
		}
		for _, count := range []int{65, 66, 128, 1000 / len(s)} {
			wantNoProof(t, strings.Repeat(s, count))
		}
	}
}

func TestReadLength(t *testing.T) {
	n := node(top, top, top, top, 1, 2)
	nodes := append(times(n, 43), times(emptyNode(), 11)...)
	s, _ := notary.Write(nodes)
	if len(s) != 1000 {
		t.Fatalf("P4: the proof has %d bytes, want 1000", len(s))
	}
	wantRead(t, s, nodes)
	wantNoProof(t, s+"\x00")
	s, _ = notary.Write(times(n, 44))
	wantNoProof(t, s)
	wantNoProof(t, strings.Repeat("\x00", 1000))
	wantNoProof(t, strings.Repeat("\x01", 1<<20))
}

// wantOneForm asks that Read refuses a text, or that Write tells it again.
func wantOneForm(t *testing.T, s string) {
	t.Helper()
	nodes, e := notary.Read(s)
	if e != api.OK {
		wantNoProof(t, s)
		return
	}
	wantWrite(t, nodes, s)
}

func TestReadTakesOneFormOnly(t *testing.T) {
	for _, c := range proofs {
		for i := range c.s {
			for b := range 256 {
				changed := []byte(c.s)
				changed[i] = byte(b)
				wantOneForm(t, string(changed))
			}
			wantOneForm(t, c.s[:i]+c.s[i+1:])
		}
	}
}

func TestReadAnswersNewMemory(t *testing.T) {
	s := "\x00\x01\x01\x05\x05\x05\x07\x08\x00"
	want := []api.Node{emptyNode(), node(1, 5, 5, 5, 7, 8), emptyNode()}
	first, _ := notary.Read(s)
	second, _ := notary.Read(s)
	for i := range first[:cap(first)] {
		first[:cap(first)][i] = node(9, 9, 9, 9, 9, 9)
	}
	if !slices.Equal(second, want) || slices.Contains(second[:cap(second)], node(9, 9, 9, 9, 9, 9)) {
		t.Errorf("P2: two answers share memory: %v", second[:cap(second)])
	}
	wantRead(t, s, want)
	wantWrite(t, want, s)
}
