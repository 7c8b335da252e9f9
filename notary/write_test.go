package notary_test

import (
	"slices"
	"testing"

	"notary/api"
	"notary/notary"
)

func TestWriteProofs(t *testing.T) {
	for _, c := range proofs {
		wantWrite(t, c.nodes, c.s)
	}
}

func TestWriteNumbers(t *testing.T) {
	for place := range 4 {
		for _, c := range numbers {
			wantWrite(t, []api.Node{withNumber(place, c.n)}, nodeBytes(place, c.s))
		}
	}
}

func TestWriteCount(t *testing.T) {
	for _, n := range []api.Node{emptyNode(), node(1, 2, 2, 2, 3, 4), node(0, -1, 0, 0, 0, 0)} {
		for _, count := range []int{65, 66, 128, 256, 1 << 16} {
			wantWriteError(t, times(n, count), api.ErrCount)
		}
	}
}

func TestWriteMayBeLongerThanRead(t *testing.T) {
	s, e := notary.Write(times(node(top, top, top, top, 1, 2), 64))
	if len(s) != 64*23 || e != api.OK {
		t.Errorf("P4: 64 nodes of 23 bytes: %d bytes, %d", len(s), e)
	}
	wantNoProof(t, s)
}

func TestWriteWrongNodes(t *testing.T) {
	for place := range 4 {
		for _, n := range wrongNumbers {
			wrong := withNumber(place, n)
			wantWriteError(t, []api.Node{wrong}, api.ErrNode)
			for _, at := range []int{0, 1, 63} {
				nodes := times(emptyNode(), 64)
				nodes[at] = wrong
				wantWriteError(t, nodes, api.ErrNode)
			}
		}
	}
}

func TestWriteWrongNodeWithEmptyDigest(t *testing.T) {
	wantWriteError(t, []api.Node{node(0, 0, 0, -1, 1, 77)}, api.ErrNode)
	wantWriteError(t, []api.Node{node(top+1, 0, 0, 0, 1, 77)}, api.ErrNode)
}

func TestWriteLooksNotBehindTheList(t *testing.T) {
	room := []api.Node{emptyNode(), node(-1, -1, -1, -1, 0, 0)}
	wantWrite(t, room[:1], "\x00")
	wantWrite(t, room[:0], "")
}

func TestWriteLeavesNodesAlone(t *testing.T) {
	room := append([]api.Node{node(1, 300, 0, 300, 7, 8), emptyNode()}, times(node(9, 9, 9, 9, 9, 9), 6)...)
	before := slices.Clone(room)
	s, _ := notary.Write(room[:2])
	if !slices.Equal(room, before) {
		t.Errorf("P2: Write changed its argument, or what is behind it: %v", room)
	}
	clear(room)
	if want := "\x01\x01\xac\x02\x00\xac\x02\x07\x08\x00"; s != want {
		t.Errorf("P2: Write's answer is %q, want %q", s, want)
	}
}
