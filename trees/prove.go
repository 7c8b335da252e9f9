package trees

import "notary/api"

// Prove tells what the values of the range r come to in a tree of this size, and the nodes of the proof.
func Prove(size int, r Part, of Source) (api.Fold, []api.Node) {
	var fold api.Fold
	var nodes []api.Node
	for p := range Cover(size, r) {
		n := Node(p, of)
		nodes = append(nodes, n)
		if p.Within(r) {
			fold = Together(fold, n.Fold)
		}
	}
	return fold, nodes
}
