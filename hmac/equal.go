package hmac

// Equal compares bytes, all of them.
func Equal(a, b []byte) (same bool, looked int) {
	short, long := a, b
	if len(short) > len(long) {
		short, long = long, short
	}
	differing := byte(0)
	for i, x := range short {
		differing = collected(differing, x, long[i])
	}
	for _, x := range long[len(short):] {
		differing = collected(differing, 0, x)
	}
	all := collected(uint64(differing), uint64(len(short)), uint64(len(long)))
	return all == 0, len(long)
}

// collected returns the bits of all, and those in which x and y differ. It has no branch, so that the time it takes says nothing of where they differ.
func collected[T byte | uint64](all, x, y T) T { return all | (x ^ y) }
