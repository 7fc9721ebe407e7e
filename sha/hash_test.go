package sha_test

import (
	"bytes"
	"crypto/sha256"
	"math"
	"slices"
	"testing"

	"groundling/api"
	"groundling/sha"
)

// checkHash checks that h has the bytes b, twice, since it stays as it is.
func checkHash(t *testing.T, h *sha.Hash, b []byte) {
	t.Helper()
	for range 2 {
		if d, e := h.Sum(); d != sha256.Sum256(b) || e != api.OK {
			t.Fatalf("the digest of %d bytes is %x, %d, not %x", len(b), d, e, sha256.Sum256(b))
		}
		if n, e := h.Len(); n != int64(len(b)) || e != api.OK {
			t.Fatalf("Len is %d, %d, not %d", n, e, len(b))
		}
	}
}

func write(t *testing.T, h *sha.Hash, b []byte) {
	t.Helper()
	before := slices.Clone(b)
	if e := h.Write(b); e != api.OK {
		t.Fatalf("Write is %d", e)
	}
	if !bytes.Equal(b, before) {
		t.Fatalf("Write changes %x to %x", before, b)
	}
}

func copied(t *testing.T, h *sha.Hash) *sha.Hash {
	t.Helper()
	c, e := h.Copy()
	if c == nil || c == h || e != api.OK {
		t.Fatalf("Copy is %p, %d, of %p", c, e, h)
	}
	return c
}

// P3.4 and P3.5: bytes in two parts, and in three, cut at each place.
func TestParts(t *testing.T) {
	s := source(4)
	b := s.bytes(200)
	for size := 0; size <= len(b); size += 8 {
		for cut := range size + 1 {
			h := sha.New()
			checkHash(t, h, nil)
			write(t, h, b[:cut])
			checkHash(t, h, b[:cut])
			write(t, h, nil)
			write(t, h, []byte{})
			checkHash(t, h, b[:cut])
			write(t, h, b[cut:size])
			checkHash(t, h, b[:size])
		}
	}
	for first := 0; first <= 140; first += 7 {
		for second := first; second <= 200; second++ {
			h := sha.New()
			write(t, h, b[:first])
			write(t, h, b[first:second])
			write(t, h, b[second:])
			checkHash(t, h, b)
		}
	}
}

// P3.5: bytes in parts of one size each, whose digest is the one at once.
func TestEqualParts(t *testing.T) {
	s := source(5)
	b := s.bytes(5000)
	for size := 1; size <= 300; size++ {
		h := sha.New()
		for part := range slices.Chunk(b, size) {
			write(t, h, part)
		}
		checkHash(t, h, b)
		if d, _ := h.Sum(); d != sha.Sum(b) {
			t.Errorf("the digest in parts of %d is %x", size, d)
		}
	}
}

// P3.4: a hash goes on after Sum, Len and Copy, one byte after the other.
func TestSumGoesOn(t *testing.T) {
	s := source(6)
	b := s.bytes(300)
	h := sha.New()
	for i := range b {
		checkHash(t, h, b[:i])
		checkHash(t, copied(t, h), b[:i])
		write(t, h, b[i:i+1])
	}
	checkHash(t, h, b)
}

// P3.4: what is written to a hash is not written to its copy, and the other way round; likewise with Reset.
func TestCopy(t *testing.T) {
	s := source(8)
	b := s.bytes(400)
	for size := range 200 {
		h := sha.New()
		write(t, h, b[:size])
		c := copied(t, h)
		checkHash(t, c, b[:size])
		write(t, h, b[size:size+100])
		checkHash(t, c, b[:size])
		write(t, c, []byte("other"))
		checkHash(t, h, b[:size+100])
		checkHash(t, c, slices.Concat(b[:size], []byte("other")))
		d := copied(t, c)
		if e := c.Reset(); e != api.OK {
			t.Fatalf("Reset is %d", e)
		}
		checkHash(t, c, nil)
		checkHash(t, d, slices.Concat(b[:size], []byte("other")))
		checkHash(t, h, b[:size+100])
	}
}

// P3.4: after Reset a hash is as a new one, however often, and whatever was written.
func TestReset(t *testing.T) {
	s := source(9)
	h := sha.New()
	for size := range 150 {
		if e := h.Reset(); e != api.OK {
			t.Fatalf("Reset is %d", e)
		}
		checkHash(t, h, nil)
		b := s.bytes(size)
		write(t, h, b)
		checkHash(t, h, b)
	}
	for range 3 {
		h.Reset()
		checkHash(t, h, nil)
	}
}

// P3.4 and P3.5: many calls, in all orders, of several hashes, against the bytes that each should have.
func TestManyCalls(t *testing.T) {
	s := source(10)
	hashes := []*sha.Hash{sha.New(), sha.New(), sha.New()}
	want := make([][]byte, len(hashes))
	for range 5000 {
		i, j := s.below(len(hashes)), s.below(len(hashes))
		switch s.below(12) {
		case 0:
			hashes[i], want[i] = sha.New(), nil
		case 1:
			hashes[i].Reset()
			want[i] = nil
		case 2:
			hashes[i], want[i] = copied(t, hashes[j]), slices.Clone(want[j])
		default:
			b := s.bytes(s.below(150))
			write(t, hashes[i], b)
			want[i] = append(want[i], b...)
			clear(b)
		}
		for k, h := range hashes {
			checkHash(t, h, want[k])
		}
	}
}

// checkNone checks that no method of h does anything, as none of it is a hash.
func checkNone(t *testing.T, what string, h *sha.Hash) {
	t.Helper()
	for _, b := range [][]byte{nil, {}, {1}, make([]byte, 1000)} {
		if e := h.Write(b); e != api.ErrNil {
			t.Errorf("%s: Write is %d", what, e)
		}
	}
	if d, e := h.Sum(); d != [32]byte{} || e != api.ErrNil {
		t.Errorf("%s: Sum is %x, %d", what, d, e)
	}
	if n, e := h.Len(); n != 0 || e != api.ErrNil {
		t.Errorf("%s: Len is %d, %d", what, n, e)
	}
	if c, e := h.Copy(); c != nil || e != api.ErrNil {
		t.Errorf("%s: Copy is %p, %d", what, c, e)
	}
	if e := h.Reset(); e != api.ErrNil {
		t.Errorf("%s: Reset is %d", what, e)
	}
}

// The methods of what New and Copy did not return: nothing happens, also not to the hash of which it is a value.
func TestNoHash(t *testing.T) {
	var none *sha.Hash
	zero := sha.Hash{}
	for range 2 {
		checkNone(t, "nil", none)
		checkNone(t, "a zero value", &zero)
		checkNone(t, "a new zero value", new(sha.Hash))
	}
	if zero != (sha.Hash{}) {
		t.Error("a zero value is changed")
	}
	h := sha.New()
	write(t, h, []byte("abc"))
	c := copied(t, h)
	for _, made := range []*sha.Hash{h, c} {
		value := *made
		checkNone(t, "a value of a hash", &value)
		checkHash(t, made, []byte("abc"))
		write(t, made, []byte("d"))
		checkNone(t, "a value of a hash", &value)
		checkHash(t, made, []byte("abcd"))
	}
}

// P3.7, R3: what is written is not kept: it may change afterwards; room after it stays as it is.
func TestWriteKeepsNothing(t *testing.T) {
	for _, size := range []int{0, 1, 63, 64, 65, 130} {
		room := bytes.Repeat([]byte{7}, 300)
		h := sha.New()
		write(t, h, room[:size])
		d, _ := h.Sum()
		if !bytes.Equal(room, bytes.Repeat([]byte{7}, 300)) {
			t.Fatalf("what is after %d bytes is changed: %v", size, room)
		}
		clear(room)
		checkHash(t, h, bytes.Repeat([]byte{7}, size))
		clear(d[:])
		checkHash(t, h, bytes.Repeat([]byte{7}, size))
	}
}

// R3: what is written to results is not in the next ones.
func TestFreshMemory(t *testing.T) {
	for range 2 {
		for _, n := range []int64{0, 55, 56, 64, 1 << 60} {
			b, _ := sha.Pad(n)
			if want, _ := wantPad(n); !bytes.Equal(b, want) {
				t.Errorf("Pad(%d) is %v", n, b)
			}
			b = b[:cap(b)]
			for i := range b {
				b[i] = 99
			}
		}
		k, s := sha.Constants(), sha.Start()
		if k[0] != 0x428a2f98 || s[0] != 0x6a09e667 {
			t.Errorf("the first words are %08x, %08x", k[0], s[0])
		}
		clear(k[:])
		clear(s[:])
	}
}

// P1, R6: the same arguments lead to the same, whatever was called before.
func TestSameAgain(t *testing.T) {
	s := source(11)
	for range 100 {
		b := s.bytes(s.below(300))
		d := sha.Sum(b)
		sha.Sum(s.bytes(77))
		sha.Pad(math.MinInt64)
		h := sha.New()
		write(t, h, s.bytes(s.below(100)))
		if again := sha.Sum(b); again != d || sha.Hex(again) != sha.Hex(d) {
			t.Errorf("the digest of %x is %x, and then %x", b, d, again)
		}
	}
}

// R6: different hashes do not touch each other, also at the same time.
func TestCallsAtOnce(t *testing.T) {
	done := make(chan bool)
	for i := range 8 {
		go func() {
			s := source(i + 1)
			ok := true
			for n := range 100 {
				b := s.bytes(5 * n)
				h := sha.New()
				h.Write(b[:n])
				c, _ := h.Copy()
				h.Write(b[n:])
				c.Write(b[n:])
				d, e := h.Sum()
				d2, e2 := c.Sum()
				ok = ok && d == sha256.Sum256(b) && d2 == d && sha.Sum(b) == d && e == api.OK && e2 == api.OK
			}
			done <- ok
		}()
	}
	for range 8 {
		if !<-done {
			t.Error("a call at the same time as others has another result")
		}
	}
}
