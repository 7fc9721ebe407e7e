package fields

import "iter"

// appendNumber appends n in so many bytes, the highest one first.
func appendNumber(b []byte, n uint64, width int) []byte {
	for _, shift := range shifts(width) {
		b = append(b, byte(n>>shift))
	}
	return b
}

// number returns the number whose bytes these are, the highest one first.
func number(b []byte) uint64 {
	n := uint64(0)
	for at, shift := range shifts(len(b)) {
		n |= uint64(b[at]) << shift
	}
	return n
}

// shifts yields the index of each byte of a number in so many bytes, and by how many bits that byte is shifted in it.
func shifts(width int) iter.Seq2[int, int] {
	return func(yield func(at, shift int) bool) {
		for at := range width {
			if !yield(at, 8*(width-1-at)) {
				return
			}
		}
	}
}
