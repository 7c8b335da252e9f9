package wire

import (
	"notary/api"
	"notary/digest"
)

// EmptyText is the text of the empty node.
const EmptyText = "E"

// Empty is the node of a part in which nothing lies.
func Empty() api.Node {
	return api.Node{Hash: digest.Of(EmptyText)}
}

// MayBe tells whether n has bytes.
func MayBe(n api.Node) bool {
	f := n.Fold
	return IsNumber(f.Count) && IsNumber(f.Sum) && IsNumber(f.Min) && IsNumber(f.Max)
}

// AppendNode lays the bytes of n behind b. Where n may not be, what it lays there means nothing.
func AppendNode(b []byte, n api.Node) []byte {
	b = AppendNumber(b, n.Fold.Count)
	b = AppendNumber(b, n.Fold.Sum)
	b = AppendNumber(b, n.Fold.Min)
	b = AppendNumber(b, n.Fold.Max)
	return append(b, n.Hash[0], n.Hash[1])
}

// readNode takes a node off the beginning of s, and tells what is left.
func readNode(s string) (n api.Node, rest string, ok bool) {
	var f [4]int
	for i := range f {
		f[i], s, ok = readNumber(s)
		if !ok {
			return api.Node{}, "", false
		}
	}
	if len(s) < len(n.Hash) {
		return api.Node{}, "", false
	}
	n.Fold = api.Fold{Count: f[0], Sum: f[1], Min: f[2], Max: f[3]}
	n.Hash = api.Digest{s[0], s[1]}
	return n, s[len(n.Hash):], true
}
