// Package trees has the trees of digests: their parts, the cover of a range, and what a part comes to.
package trees

import (
	"iter"
	"math/bits"
)

// Part is a part of a tree, or a range in it: the places from From on and ahead of To.
type Part struct {
	From, To int
}

// Size tells how many places p has.
func (p Part) Size() int { return p.To - p.From }

// Apart tells whether p and r have no place in common.
func (p Part) Apart(r Part) bool {
	return min(p.To, r.To) <= max(p.From, r.From)
}

// Within tells whether p lies in r as a whole. A part without places lies in none.
func (p Part) Within(r Part) bool {
	return !p.Apart(r) && r.From <= p.From && p.To <= r.To
}

// Split tells the two parts below p, which has more than one place.
func (p Part) Split() (left, right Part) {
	// The greatest power of 2 that is less than the size is the highest bit of the size less 1.
	k := 1 << (bits.Len(uint(p.Size()-1)) - 1)
	return Part{p.From, p.From + k}, Part{p.From + k, p.To}
}

// Cover goes through the cover of the range r in a tree of this size.
func Cover(size int, r Part) iter.Seq[Part] {
	return func(yield func(Part) bool) {
		coverPart(Part{0, size}, r, yield)
	}
}

// coverPart goes through the cover below p, and tells whether yield would take more.
func coverPart(p Part, r Part, yield func(Part) bool) bool {
	if p.Apart(r) || p.Within(r) {
		return yield(p)
	}
	left, right := p.Split()
	return coverPart(left, r, yield) && coverPart(right, r, yield)
}
