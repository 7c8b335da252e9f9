// Package digest has the short digest by which notary's trees are made.
package digest

import "notary/api"

const (
	start   = 1
	factor  = 263
	modulus = 65521
)

// Of is the digest of a text.
func Of(s string) api.Digest {
	n := start
	// By the byte, not by the rune: a text is any bytes.
	for i := range len(s) {
		n = (n*factor + int(s[i]) + 1) % modulus
	}
	return api.Digest{byte(n >> 8), byte(n)}
}
