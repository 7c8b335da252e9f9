package trees

import (
	"notary/api"
	"notary/digest"
	"notary/wire"
)

// Source tells what a part comes to, if it knows that without the parts below. A part that it does not know can be worked out from parts that it knows.
type Source func(p Part) (n api.Node, known bool)

// Node works out what the part p comes to.
func Node(p Part, of Source) api.Node {
	if n, known := of(p); known {
		return n
	}
	left, right := p.Split()
	return above(Node(left, of), Node(right, of))
}

// above is the node above two.
func above(left, right api.Node) api.Node {
	return api.Node{Fold: Together(left.Fold, right.Fold), Hash: digest.Of(aboveText(left, right))}
}

// aboveText is the text of the node above two. That of two empty nodes makes it the empty node again.
func aboveText(left, right api.Node) string {
	if left == wire.Empty() && right == wire.Empty() {
		return wire.EmptyText
	}
	return string(wire.AppendNode(wire.AppendNode([]byte("I"), left), right))
}

// Head tells the head of a tree of this size.
func Head(size int, of Source) api.Head {
	return api.Head{Size: size, Root: digest.Of(headText(size, of))}
}

func headText(size int, of Source) string {
	return string(wire.AppendNode(wire.AppendNumber([]byte("H"), size), Node(Part{0, size}, of)))
}
