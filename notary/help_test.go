package notary_test

import (
	"math"
	"slices"
	"strings"
	"testing"

	"notary/api"
	"notary/notary"
)

const top = 34359738367

func node(count, sum, least, most int, a, b byte) api.Node {
	return api.Node{Fold: api.Fold{Count: count, Sum: sum, Min: least, Max: most}, Hash: api.Digest{a, b}}
}

func emptyNode() api.Node { return node(0, 0, 0, 0, 1, 77) }

func times(n api.Node, count int) []api.Node { return slices.Repeat([]api.Node{n}, count) }

// withNumber is a node with n as one of its four numbers, and 0 as the others.
func withNumber(place int, n int) api.Node {
	var f [4]int
	f[place] = n
	return node(f[0], f[1], f[2], f[3], 7, 8)
}

// nodeBytes is what a proof says of withNumber(place, n), where number is n in bytes.
func nodeBytes(place int, number string) string {
	f := []string{"\x00", "\x00", "\x00", "\x00"}
	f[place] = number
	return "\x01" + strings.Join(f, "") + "\x07\x08"
}

// numbers has the edges of a number in bytes, written out by hand.
var numbers = []struct {
	n int
	s string
}{
	{0, "\x00"},
	{1, "\x01"},
	{127, "\x7f"},
	{128, "\x80\x01"},
	{129, "\x81\x01"},
	{255, "\xff\x01"},
	{256, "\x80\x02"},
	{300, "\xac\x02"},
	{16383, "\xff\x7f"},
	{16384, "\x80\x80\x01"},
	{2097151, "\xff\xff\x7f"},
	{2097152, "\x80\x80\x80\x01"},
	{268435455, "\xff\xff\xff\x7f"},
	{268435456, "\x80\x80\x80\x80\x01"},
	{top - 1, "\xfe\xff\xff\xff\x7f"},
	{top, "\xff\xff\xff\xff\x7f"},
}

// wrongNumbers are those that no node may have.
var wrongNumbers = []int{-1, -127, -128, top + 1, 1 << 36, 1 << 42, 1<<32 - 1<<40, math.MinInt, math.MaxInt}

// proofs has nodes and the bytes of the proof that they are.
var proofs = []struct {
	nodes []api.Node
	s     string
}{
	{nil, ""},
	{[]api.Node{}, ""},
	{[]api.Node{emptyNode()}, "\x00"},
	{times(emptyNode(), 3), "\x00\x00\x00"},
	{times(emptyNode(), 64), strings.Repeat("\x00", 64)},
	{[]api.Node{node(1, 300, 0, 300, 7, 8)}, "\x01\x01\xac\x02\x00\xac\x02\x07\x08"},
	{[]api.Node{node(2, 8, 3, 5, 0, 0)}, "\x01\x02\x08\x03\x05\x00\x00"},
	{[]api.Node{node(1, 2, 3, 4, 255, 255)}, "\x01\x01\x02\x03\x04\xff\xff"},
	// the least and the greatest need not fit together: a node may be all the same
	{[]api.Node{node(0, 9, 200, 1, 128, 0)}, "\x01\x00\x09\xc8\x01\x01\x80\x00"},
	// nearly the empty node
	{[]api.Node{node(0, 0, 0, 0, 0, 0)}, "\x01\x00\x00\x00\x00\x00\x00"},
	{[]api.Node{node(0, 0, 0, 0, 1, 76)}, "\x01\x00\x00\x00\x00\x01\x4c"},
	{[]api.Node{node(0, 0, 0, 0, 77, 1)}, "\x01\x00\x00\x00\x00\x4d\x01"},
	{[]api.Node{node(1, 0, 0, 0, 1, 77)}, "\x01\x01\x00\x00\x00\x01\x4d"},
	{[]api.Node{node(0, 1, 0, 0, 1, 77)}, "\x01\x00\x01\x00\x00\x01\x4d"},
	{[]api.Node{node(0, 0, 1, 0, 1, 77)}, "\x01\x00\x00\x01\x00\x01\x4d"},
	{[]api.Node{node(0, 0, 0, 1, 1, 77)}, "\x01\x00\x00\x00\x01\x01\x4d"},
	// several, the empty node among them
	{[]api.Node{emptyNode(), node(1, 5, 5, 5, 1, 0), emptyNode()}, "\x00\x01\x01\x05\x05\x05\x01\x00\x00"},
	{[]api.Node{node(1, 5, 5, 5, 0, 1), node(1, 3, 3, 3, 0, 0)}, "\x01\x01\x05\x05\x05\x00\x01\x01\x01\x03\x03\x03\x00\x00"},
	{[]api.Node{node(top, top, top, top, 1, 77)}, "\x01" + strings.Repeat("\xff\xff\xff\xff\x7f", 4) + "\x01\x4d"},
	{times(node(1, 0, 0, 0, 1, 1), 64), strings.Repeat("\x01\x01\x00\x00\x00\x01\x01", 64)},
}

func wantWrite(t *testing.T, nodes []api.Node, want string) {
	t.Helper()
	if s, e := notary.Write(nodes); s != want || e != api.OK {
		t.Errorf("Write(%v) = %.60q, %d, want %.60q", nodes, s, e, want)
	}
}

func wantWriteError(t *testing.T, nodes []api.Node, want api.Errno) {
	t.Helper()
	if s, e := notary.Write(nodes); s != "" || e != want {
		t.Errorf("Write of %d nodes = %q, %d, want error %d", len(nodes), s, e, want)
	}
}

func wantRead(t *testing.T, s string, want []api.Node) {
	t.Helper()
	if nodes, e := notary.Read(s); !slices.Equal(nodes, want) || e != api.OK {
		t.Errorf("Read(%.60q) = %v, %d, want %v", s, nodes, e, want)
	}
}

func wantNoProof(t *testing.T, s string) {
	t.Helper()
	if nodes, e := notary.Read(s); nodes != nil || e != api.ErrBytes {
		t.Errorf("Read(%.60q) = %v, %d, want error %d", s, nodes, e, api.ErrBytes)
	}
}
