package sha_test

import (
	"encoding/binary"
	"math/big"
	"math/bits"
	"testing"

	"groundling/sha"
)

// primes returns the first n primes.
func primes(n int) []int64 {
	var l []int64
	for p := int64(2); len(l) < n; p++ {
		if big.NewInt(p).ProbablyPrime(0) {
			l = append(l, p)
		}
	}
	return l
}

// checkRoot checks that word is the first 32 bits of the fractional part of the root of p, of this degree: the whole number m, whose lower 32 bits are word, and whose higher ones the whole part of the root, is at most 2^32 times the root, and m + 1 is more (P3.6).
func checkRoot(t *testing.T, word uint32, p int64, degree int) {
	t.Helper()
	power := func(m *big.Int) *big.Int { return new(big.Int).Exp(m, big.NewInt(int64(degree)), nil) }
	whole := big.NewInt(0)
	for power(new(big.Int).Add(whole, big.NewInt(1))).Cmp(big.NewInt(p)) <= 0 {
		whole.Add(whole, big.NewInt(1))
	}
	m := new(big.Int).Lsh(whole, 32)
	m.Or(m, big.NewInt(int64(word)))
	limit := new(big.Int).Lsh(big.NewInt(p), uint(32*degree))
	next := new(big.Int).Add(m, big.NewInt(1))
	if power(m).Cmp(limit) > 0 || power(next).Cmp(limit) <= 0 {
		t.Errorf("%08x is not of the root of %d of the degree %d", word, p, degree)
	}
}

// P3.1 and P3.6: each constant and each word of the start, by its definition.
func TestRoots(t *testing.T) {
	first := primes(64)
	if first[63] != 311 || first[7] != 19 {
		t.Fatalf("the primes are %d", first)
	}
	for i, k := range sha.Constants() {
		checkRoot(t, k, first[i], 3)
	}
	for i, x := range sha.Start() {
		checkRoot(t, x, first[i], 2)
	}
}

// P3.1, and the examples: some of the published words.
func TestPublishedWords(t *testing.T) {
	k, s := sha.Constants(), sha.Start()
	if k[0] != 0x428a2f98 || k[1] != 0x71374491 || k[31] != 0x14292967 || k[63] != 0xc67178f2 {
		t.Errorf("the constants are %08x", k)
	}
	if s != [8]uint32{0x6a09e667, 0xbb67ae85, 0x3c6ef372, 0xa54ff53a, 0x510e527f, 0x9b05688c, 0x1f83d9ab, 0x5be0cd19} {
		t.Errorf("the start is %08x", s)
	}
}

// wantWords is w(0) to w(63) by the definition.
func wantWords(b [64]byte) [64]uint32 {
	var w [64]uint32
	for t := range w {
		if t < 16 {
			w[t] = binary.BigEndian.Uint32(b[4*t:])
			continue
		}
		x, y := w[t-2], w[t-15]
		s1 := bits.RotateLeft32(x, -17) ^ bits.RotateLeft32(x, -19) ^ x/1024
		s0 := bits.RotateLeft32(y, -7) ^ bits.RotateLeft32(y, -18) ^ y/8
		w[t] = s1 + w[t-7] + s0 + w[t-16]
	}
	return w
}

// bitwise returns the word each of whose bits is that of pick for the bits of x, y and z there.
func bitwise(x, y, z uint32, pick func(x, y, z uint32) uint32) uint32 {
	n := uint32(0)
	for i := range 32 {
		n |= pick(x>>i&1, y>>i&1, z>>i&1) << i
	}
	return n
}

func wantCh(x, y, z uint32) uint32 {
	return bitwise(x, y, z, func(x, y, z uint32) uint32 {
		if x == 1 {
			return y
		}
		return z
	})
}

func wantMaj(x, y, z uint32) uint32 {
	return bitwise(x, y, z, func(x, y, z uint32) uint32 { return (x + y + z) / 2 })
}

func wantS0(x uint32) uint32 {
	return bits.RotateLeft32(x, -2) ^ bits.RotateLeft32(x, -13) ^ bits.RotateLeft32(x, -22)
}

func wantS1(x uint32) uint32 {
	return bits.RotateLeft32(x, -6) ^ bits.RotateLeft32(x, -11) ^ bits.RotateLeft32(x, -25)
}

// wantBlock is Block by the definition.
func wantBlock(state [8]uint32, block [64]byte) [8]uint32 {
	a, b, c, d, e, f, g, h := state[0], state[1], state[2], state[3], state[4], state[5], state[6], state[7]
	constants := sha.Constants()
	for t, w := range wantWords(block) {
		u := h + wantS1(e) + wantCh(e, f, g) + constants[t] + w
		v := wantS0(a) + wantMaj(a, b, c)
		h, g, f, e, d, c, b, a = g, f, e, d+u, c, b, a, u+v
	}
	return [8]uint32{state[0] + a, state[1] + b, state[2] + c, state[3] + d, state[4] + e, state[5] + f, state[6] + g, state[7] + h}
}

// undone returns the state that has become after in the 64 steps for the block, each of them undone, the last one first.
func undone(after [8]uint32, block [64]byte) [8]uint32 {
	words, constants := wantWords(block), sha.Constants()
	for t := 63; t >= 0; t-- {
		a, b, c, e, f, g := after[1], after[2], after[3], after[5], after[6], after[7]
		u := after[0] - wantS0(a) - wantMaj(a, b, c)
		d := after[4] - u
		h := u - wantS1(e) - wantCh(e, f, g) - constants[t] - words[t]
		after = [8]uint32{a, b, c, d, e, f, g, h}
	}
	return after
}

// checkBlock checks Block, and that its steps can be undone (P3.7).
func checkBlock(t *testing.T, state [8]uint32, b [64]byte) {
	t.Helper()
	stateBefore, blockBefore := state, b
	got := sha.Block(state, b)
	if want := wantBlock(state, b); got != want {
		t.Fatalf("Block(%08x, %x) is %08x, not %08x", state, b, got, want)
	}
	if state != stateBefore || b != blockBefore {
		t.Fatalf("Block changes its arguments to %08x, %x", state, b)
	}
	for i := range got {
		got[i] -= state[i]
	}
	if back := undone(got, b); back != state {
		t.Fatalf("the steps of Block(%08x, %x), undone, lead to %08x", state, b, back)
	}
}

// source gives numbers that look like random ones, the same ones in each run.
type source uint64

func (s *source) next() uint64 {
	*s ^= *s << 13
	*s ^= *s >> 7
	*s ^= *s << 17
	return uint64(*s)
}

func (s *source) below(n int) int { return int(s.next() % uint64(n)) }

func (s *source) bytes(n int) []byte {
	b := make([]byte, n)
	for i := range b {
		b[i] = byte(s.next() >> 30)
	}
	return b
}

func (s *source) state() (state [8]uint32) {
	for i := range state {
		state[i] = uint32(s.next() >> 20)
	}
	return state
}

// P3.1 and P3.7: states and blocks in which single bits are 1, or 0, and others in which all kinds of bits are.
func TestBlock(t *testing.T) {
	allOnes := [8]uint32{}
	for i := range allOnes {
		allOnes[i] = 1<<32 - 1
	}
	for _, start := range [][8]uint32{{}, sha.Start(), allOnes} {
		for _, fill := range []byte{0, 255} {
			var block [64]byte
			for i := range block {
				block[i] = fill
			}
			checkBlock(t, start, block)
			for bit := range 256 {
				state := start
				state[bit/32] ^= 1 << (bit % 32)
				checkBlock(t, state, block)
			}
			for bit := range 512 {
				other := block
				other[bit/8] ^= 1 << (bit % 8)
				checkBlock(t, start, other)
			}
		}
	}
	s := source(1)
	for range 2000 {
		checkBlock(t, s.state(), [64]byte(s.bytes(64)))
	}
}

// P3.1: the state after the block of abc, as it is published.
func TestPublishedBlock(t *testing.T) {
	block := [64]byte{0: 'a', 1: 'b', 2: 'c', 3: 128, 63: 24}
	want := [8]uint32{0xba7816bf, 0x8f01cfea, 0x414140de, 0x5dae2223, 0xb00361a3, 0x96177a9c, 0xb410ff61, 0xf20015ad}
	if got := sha.Block(sha.Start(), block); got != want {
		t.Errorf("Block of abc is %08x", got)
	}
}

// P3.7: different states have different ones after a block's steps; here, those that differ in one bit or two.
func TestBlockKeepsApart(t *testing.T) {
	s := source(7)
	state, block := s.state(), [64]byte(s.bytes(64))
	seen := map[[8]uint32]bool{}
	note := func(other [8]uint32) {
		after := sha.Block(other, block)
		for i := range after {
			after[i] -= other[i]
		}
		seen[after] = true
	}
	note(state)
	count := 1
	for one := range 256 {
		for two := range one + 1 {
			other := state
			other[one/32] ^= 1 << (one % 32)
			if two != one {
				other[two/32] ^= 1 << (two % 32)
			}
			note(other)
			count++
		}
	}
	if len(seen) != count {
		t.Errorf("%d states lead to %d", count, len(seen))
	}
}
