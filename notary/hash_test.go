package notary_test

import (
	"math/big"
	"strings"
	"testing"

	"notary/api"
	"notary/notary"
)

func TestHashOfWorkedTexts(t *testing.T) {
	for _, c := range []struct {
		s    string
		want api.Digest
	}{
		{"", api.Digest{0, 1}},
		{"E", api.Digest{1, 77}},
		{"\x00", api.Digest{1, 8}},
		{"\xff", api.Digest{2, 7}},
		// (263 + 234 + 1) * 263 + 66 + 1 is 131041: twice 65521, less 1
		{"\xea\x42", api.Digest{255, 240}},
		{"\xea\x43", api.Digest{0, 0}},
		{"\xea\x44", api.Digest{0, 1}},
	} {
		if d := notary.Hash(c.s); d != c.want {
			t.Errorf("P3: Hash(%q) = %v, want %v", c.s, d, c.want)
		}
	}
}

// plainDigest leaves the number to grow, and takes it modulo 65521 once.
func plainDigest(s string) api.Digest {
	n := big.NewInt(1)
	for _, b := range []byte(s) {
		n.Mul(n, big.NewInt(263))
		n.Add(n, big.NewInt(int64(b)+1))
	}
	m := n.Mod(n, big.NewInt(65521)).Int64()
	return api.Digest{byte(m / 256), byte(m % 256)}
}

func TestHashOfAnyBytes(t *testing.T) {
	texts := []string{"notary", "I\x01\x05\x05\x05\x00\x00", "é", "\xc3", "\xff\xfe\xfd", "a\x00b", "\x00\x00\x00"}
	for b := range 256 {
		texts = append(texts, string([]byte{byte(b)}), string([]byte{'L', byte(b), byte(255 - b)}))
	}
	for _, fill := range []string{"\x00", "\xff", "x", "\x80\x7f"} {
		texts = append(texts, strings.Repeat(fill, 1000))
	}
	for _, s := range texts {
		if d, want := notary.Hash(s), plainDigest(s); d != want {
			t.Errorf("P3: Hash(%.20q) = %v, want %v", s, d, want)
		}
	}
}

func TestHashOfLongText(t *testing.T) {
	// 65521 is a prime: with one byte repeated, the number is back at 1 after every 65520 of them.
	long := strings.Repeat("\xff", 65520*20)
	if d := notary.Hash(long); d != (api.Digest{0, 1}) {
		t.Errorf("P3: Hash of %d bytes = %v", len(long), d)
	}
}
