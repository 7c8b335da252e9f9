// Package wire has the bytes of numbers, of nodes and of proofs: the texts that are digested, and those that are handed over.
package wire

const (
	maxNumber      = 1<<35 - 1
	maxNumberBytes = 5
	more           = 128 // added to each byte of a number that another follows
)

// IsNumber tells whether n is one of the numbers that have bytes.
func IsNumber(n int) bool {
	return 0 <= n && n <= maxNumber
}

// AppendNumber lays the bytes of n behind b. Where n is none of the numbers that have bytes, what it lays there means nothing.
func AppendNumber(b []byte, n int) []byte {
	for n >= more {
		b = append(b, byte(n%more+more))
		n /= more
	}
	return append(b, byte(n))
}

// readNumber takes a number off the beginning of s, and tells what is left.
func readNumber(s string) (n int, rest string, ok bool) {
	for i := range min(len(s), maxNumberBytes) {
		n += int(s[i]%more) << (7 * i)
		if s[i] >= more {
			continue
		}
		// A last byte 0 would give one number two forms, and so one node two texts.
		if s[i] == 0 && i > 0 {
			return 0, "", false
		}
		return n, s[i+1:], true
	}
	return 0, "", false
}
