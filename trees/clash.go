package trees

// Clash finds two different texts with one digest in two trees of this size that have the same head: the first is told's, the second kept's. It looks at the head and at the parts that told does not know, and finds none where all of these have the same text.
func Clash(size int, told, kept Source) (first, second string, found bool) {
	first, second = headText(size, told), headText(size, kept)
	if first != second {
		return first, second, true
	}
	return clashDown(Part{0, size}, told, kept)
}

// clashDown finds the clash at p or below it. Both trees have the same node there, as the text above is the same: so other texts of it have one digest.
func clashDown(p Part, told, kept Source) (first, second string, found bool) {
	if _, known := told(p); known {
		return "", "", false
	}
	left, right := p.Split()
	first = aboveText(Node(left, told), Node(right, told))
	second = aboveText(Node(left, kept), Node(right, kept))
	if first != second {
		return first, second, true
	}
	if first, second, found = clashDown(left, told, kept); found {
		return first, second, true
	}
	return clashDown(right, told, kept)
}
