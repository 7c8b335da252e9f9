package wire

import "notary/api"

// What a node of a proof begins with.
const (
	emptyMark = 0
	nodeMark  = 1
)

// WriteProof tells the bytes of the proof that has these nodes.
func WriteProof(nodes []api.Node) (string, api.Errno) {
	if len(nodes) > api.MaxNodes {
		return "", api.ErrCount
	}
	var b []byte
	for _, n := range nodes {
		if !MayBe(n) {
			return "", api.ErrNode
		}
		b = appendMarked(b, n)
	}
	return string(b), api.OK
}

func appendMarked(b []byte, n api.Node) []byte {
	if n == Empty() {
		return append(b, emptyMark)
	}
	return AppendNode(append(b, nodeMark), n)
}

// ReadProof tells the nodes of the proof that has these bytes.
func ReadProof(s string) ([]api.Node, api.Errno) {
	if len(s) > api.MaxProof {
		return nil, api.ErrBytes
	}
	var nodes []api.Node
	for s != "" {
		n, rest, ok := readMarked(s)
		if !ok || len(nodes) == api.MaxNodes {
			return nil, api.ErrBytes
		}
		nodes = append(nodes, n)
		s = rest
	}
	return nodes, api.OK
}

// readMarked takes a node and its mark off the beginning of s, which is not empty.
func readMarked(s string) (n api.Node, rest string, ok bool) {
	switch s[0] {
	case emptyMark:
		return Empty(), s[1:], true
	case nodeMark:
		n, rest, ok = readNode(s[1:])
		// The empty node has a mark of its own: a proof has one form only.
		if !ok || n == Empty() {
			return api.Node{}, "", false
		}
		return n, rest, true
	}
	return api.Node{}, "", false
}
