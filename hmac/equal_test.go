package hmac_test

import (
	"bytes"
	"slices"
	"testing"

	"groundling/hmac"
)

// checkEqual checks Equal for both orders (P4.6), and that the arguments stay as they are.
func checkEqual(t *testing.T, a, b []byte) {
	t.Helper()
	aBefore, bBefore := slices.Clone(a), slices.Clone(b)
	for range 2 {
		same, looked := hmac.Equal(a, b)
		if same != bytes.Equal(a, b) || looked != max(len(a), len(b)) {
			t.Fatalf("Equal(%x, %x) is %v, %d", a, b, same, looked)
		}
		a, b = b, a
	}
	if !bytes.Equal(a, aBefore) || !bytes.Equal(b, bBefore) {
		t.Fatalf("(%x, %x) has become (%x, %x)", aBefore, bBefore, a, b)
	}
}

// stringsOf returns all strings of at most n of the bytes.
func stringsOf(alphabet []byte, n int) [][]byte {
	all, last := [][]byte{nil}, [][]byte{nil}
	for range n {
		var next [][]byte
		for _, b := range last {
			for _, x := range alphabet {
				next = append(next, slices.Concat(b, []byte{x}))
			}
		}
		all, last = append(all, next...), next
	}
	return all
}

// P4.2 and P4.6: all pairs of short strings; a byte 0 at the end makes a difference, although a missing byte counts as 0.
func TestEqualShort(t *testing.T) {
	for _, alphabet := range [][]byte{{0, 1}, {0, 128}, {0, 255}, {'a', 'b'}} {
		all := stringsOf(alphabet, 5)
		for _, a := range all {
			for _, b := range all {
				checkEqual(t, a, b)
			}
		}
	}
	for x := range 256 {
		for y := range 256 {
			checkEqual(t, []byte{byte(x)}, []byte{byte(y)})
		}
	}
}

// P4.2: strings that differ in a bit, or in the same bit of two bytes, anywhere.
func TestEqualBits(t *testing.T) {
	s := source(6)
	for _, size := range []int{1, 2, 32, 33, 70} {
		a := s.bytes(size)
		checkEqual(t, a, slices.Clone(a))
		checkEqual(t, a, a)
		for bit := range 8 * size {
			b := slices.Clone(a)
			b[bit/8] ^= 1 << (bit % 8)
			checkEqual(t, a, b)
			for i := range size {
				c := slices.Clone(b)
				c[i] ^= 1 << (bit % 8)
				checkEqual(t, a, c)
			}
		}
	}
}

// P4.2 and P4.6: lengths that differ in one bit or in many; how many were looked at depends on them alone.
func TestEqualLengths(t *testing.T) {
	zeros := make([]byte, 1<<17)
	for _, size := range []int{0, 1, 31, 32, 33, 255, 256} {
		for _, more := range []int{0, 1, 2, 32, 128, 255, 256, 257, 512, 1 << 15, 1 << 16, 1<<16 + 1} {
			checkEqual(t, zeros[:size], zeros[:size+more])
			checkEqual(t, bytes.Repeat([]byte{7}, size), bytes.Repeat([]byte{7}, size+more))
			same, looked := hmac.Equal(bytes.Repeat([]byte{1}, size), bytes.Repeat([]byte{2}, size+more))
			if same != (size+more == 0) || looked != size+more {
				t.Errorf("Equal of %d and %d other bytes is %v, %d", size, size+more, same, looked)
			}
		}
	}
	checkEqual(t, nil, nil)
	checkEqual(t, nil, []byte{})
}

// P4.2: parts of one string, which share their bytes.
func TestEqualParts(t *testing.T) {
	b := []byte("abcabcabc")
	for i := range len(b) + 1 {
		for j := i; j <= len(b); j++ {
			for k := range len(b) + 1 {
				checkEqual(t, b[i:j], b[k:])
			}
		}
	}
}

// The examples.
func TestEqualExamples(t *testing.T) {
	for _, b := range []string{"abd", "ab"} {
		if same, looked := hmac.Equal([]byte("abc"), []byte(b)); same || looked != 3 {
			t.Errorf("Equal of abc and %s is %v, %d", b, same, looked)
		}
	}
	if same, looked := hmac.Equal([]byte("abc"), []byte("abc")); !same || looked != 3 {
		t.Errorf("Equal of abc and abc is %v, %d", same, looked)
	}
}
