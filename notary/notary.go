// Package notary keeps a log and a table, and proves what it says of them: see DOC.md.
package notary

import (
	"notary/api"
	"notary/digest"
	"notary/wire"
)

// Hash digests a text (P3).
func Hash(s string) api.Digest { return digest.Of(s) }

// Write writes a proof's nodes (P4).
func Write(nodes []api.Node) (string, api.Errno) { return wire.WriteProof(nodes) }

// Read reads a proof's nodes (P5).
func Read(b string) ([]api.Node, api.Errno) { return wire.ReadProof(b) }
