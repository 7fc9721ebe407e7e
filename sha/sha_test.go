package sha_test

import (
	"bytes"
	"crypto/sha256"
	"encoding/binary"
	"encoding/hex"
	"math"
	"math/big"
	"slices"
	"strings"
	"testing"

	"groundling/api"
	"groundling/sha"
)

// wantPad is Pad by the definition.
func wantPad(n int64) ([]byte, api.Errno) {
	if n < 0 || n > 1<<60 {
		return nil, api.ErrRange
	}
	for zeros := 0; ; zeros++ {
		all := new(big.Int).Add(big.NewInt(n), big.NewInt(int64(1+zeros+8)))
		if all.Mod(all, big.NewInt(64)).Sign() != 0 {
			continue
		}
		size := new(big.Int).Mul(big.NewInt(n), big.NewInt(8)).FillBytes(make([]byte, 8))
		return slices.Concat([]byte{128}, make([]byte, zeros), size), api.OK
	}
}

// P3.2: the padding of each number of bytes up to many blocks, around the powers of 2, and at the limits.
func TestPad(t *testing.T) {
	numbers := []int64{math.MinInt64, math.MinInt64 + 1, -1 << 60, -65, -64, -8, -1, math.MaxInt64 - 1, math.MaxInt64}
	for n := range int64(1000) {
		numbers = append(numbers, n)
	}
	for k := range 63 {
		for d := int64(-66); d <= 66; d++ {
			numbers = append(numbers, 1<<k+d)
		}
	}
	for _, n := range numbers {
		b, e := sha.Pad(n)
		if want, wantE := wantPad(n); !bytes.Equal(b, want) || e != wantE {
			t.Errorf("Pad(%d) is %v, %d, not %v, %d", n, b, e, want, wantE)
		}
	}
}

// The examples of P3.2, and its limits.
func TestPadExamples(t *testing.T) {
	for n, want := range map[int64]int{0: 64, 1: 63, 54: 10, 55: 9, 56: 72, 63: 65, 64: 64, 119: 9, 120: 72, 1 << 60: 64, 1<<60 - 1: 65, 1<<60 + 1: 0, -1: 0, math.MaxInt64: 0, math.MinInt64: 0} {
		b, e := sha.Pad(n)
		if len(b) != want || (e == api.OK) != (want > 0) || e != api.OK && e != api.ErrRange {
			t.Errorf("Pad(%d) is %d bytes, %d, not %d", n, len(b), e, want)
		}
	}
	if b, e := sha.Pad(1 << 60); e != api.OK || b[0] != 128 || b[56] != 128 || bytes.Count(b, []byte{0}) != 62 {
		t.Errorf("Pad(1<<60) is %v, %d", b, e)
	}
	if b, e := sha.Pad(55); e != api.OK || !bytes.Equal(b, []byte{128, 0, 0, 0, 0, 0, 0, 1, 184}) {
		t.Errorf("Pad(55) is %v, %d", b, e)
	}
}

// wantSum is Sum by the definition, put together from Start, Pad and Block.
func wantSum(b []byte) (d [32]byte) {
	padding, _ := sha.Pad(int64(len(b)))
	state := sha.Start()
	for block := range slices.Chunk(slices.Concat(b, padding), 64) {
		state = sha.Block(state, [64]byte(block))
	}
	for i, x := range state {
		binary.BigEndian.PutUint32(d[4*i:], x)
	}
	return d
}

// published are digests that NIST has published.
var published = []struct{ text, digest string }{
	{"abc", "ba7816bf8f01cfea414140de5dae2223b00361a396177a9cb410ff61f20015ad"},
	{"", "e3b0c44298fc1c149afbf4c8996fb92427ae41e4649b934ca495991b7852b855"},
	{"abcdbcdecdefdefgefghfghighijhijkijkljklmklmnlmnomnopnopq", "248d6a61d20638b8e5c026930c3e6039a33ce45964ff2167f6ecedd419db06c1"},
	{"abcdefghbcdefghicdefghijdefghijkefghijklfghijklmghijklmnhijklmnoijklmnopjklmnopqklmnopqrlmnopqrsmnopqrstnopqrstu", "cf5b16a778af8380036ce59e7b0492370b249b11e8f07a51afac45037afee9d1"},
	{"\xbd", "68325720aabd7c82f30f554b313d0570c95accbb7dc4b5aae11204c08ffe732b"},
	{"\xc9\x8c\x8e\x55", "7abc22c0ae5af26ce93dbb94433a0e0b2e119d014f8e7f65bd56c61ccccd9504"},
	{strings.Repeat("\x00", 55), "02779466cdec163811d078815c633f21901413081449002f24aa3e80f0b88ef7"},
	{strings.Repeat("\x00", 56), "d4817aa5497628e7c77e6b606107042bbba3130888c5f47a375e6179be789fbb"},
	{strings.Repeat("\x00", 57), "65a16cb7861335d5ace3c60718b5052e44660726da4cd13bb745381b235a1785"},
	{strings.Repeat("\x00", 64), "f5a5fd42d16a20302798ef6ed309979b43003d2320d9f0e8ea9831a92759fb4b"},
	{strings.Repeat("a", 1_000_000), "cdc76e5c9914fb9281a1c7e284d73e67f1809a48a497200e046d39ccc7112cd0"},
}

// P3.2, P3.3, P3.4, and the examples: the published digests, at once and in a hash, written and read.
func TestPublishedDigests(t *testing.T) {
	for _, x := range published {
		d := sha.Sum([]byte(x.text))
		if got := sha.Hex(d); got != x.digest {
			t.Errorf("the digest of %.60q is %s, not %s", x.text, got, x.digest)
		}
		if back, e := sha.Parse(x.digest); back != d || e != api.OK {
			t.Errorf("Parse(%s) is %x, %d", x.digest, back, e)
		}
		h := sha.New()
		h.Write([]byte(x.text))
		if got, e := h.Sum(); got != d || e != api.OK {
			t.Errorf("the digest of %.60q in a hash is %x, %d", x.text, got, e)
		}
	}
}

// P3.2: bytes of each length up to many blocks.
func TestSum(t *testing.T) {
	s := source(2)
	lengths := []int{1023, 1024, 1025, 4095, 4096, 4097, 65535, 65536, 100_003}
	for n := range 400 {
		lengths = append(lengths, n)
	}
	for _, n := range lengths {
		for _, b := range [][]byte{s.bytes(n), make([]byte, n), bytes.Repeat([]byte{255}, n), bytes.Repeat([]byte{128}, n)} {
			before := slices.Clone(b)
			d := sha.Sum(b)
			if d != sha256.Sum256(b) || d != wantSum(b) {
				t.Errorf("the digest of %d bytes is %x, not %x", n, d, sha256.Sum256(b))
			}
			if !bytes.Equal(b, before) {
				t.Errorf("Sum changes %x to %x", before, b)
			}
		}
	}
	if sha.Sum(nil) != sha.Sum([]byte{}) {
		t.Error("nil and no bytes have different digests")
	}
}

func checkHex(t *testing.T, d [32]byte) {
	t.Helper()
	s := sha.Hex(d)
	if s != hex.EncodeToString(d[:]) {
		t.Errorf("Hex(%v) is %q", d, s)
	}
	if back, e := sha.Parse(s); back != d || e != api.OK {
		t.Errorf("Parse of Hex of %v is %v, %d", d, back, e)
	}
}

// P3.3: each byte at each place.
func TestHex(t *testing.T) {
	for i := range 32 {
		for c := range 256 {
			var d [32]byte
			d[i] = byte(c)
			checkHex(t, d)
			for j := range d {
				d[j] ^= 255
			}
			checkHex(t, d)
		}
	}
	s := source(3)
	for range 200 {
		checkHex(t, [32]byte(s.bytes(32)))
	}
}

// P3.3: each byte at each place of a string that is one otherwise.
func TestParse(t *testing.T) {
	const right = "00112233445566778899aabbccddeeff0123456789abcdeffedcba9876543210"
	for i := range 64 {
		for c := range 256 {
			s := right[:i] + string([]byte{byte(c)}) + right[i+1:]
			d, e := sha.Parse(s)
			if strings.IndexByte("0123456789abcdef", byte(c)) < 0 {
				if d != [32]byte{} || e != api.ErrForm {
					t.Errorf("Parse(%q) is %x, %d", s, d, e)
				}
				continue
			}
			if e != api.OK || sha.Hex(d) != s {
				t.Errorf("Parse(%q) is %x, %d", s, d, e)
			}
		}
	}
}

// P3.3: strings of other lengths, and those that are almost digests.
func TestParseOthers(t *testing.T) {
	const right = "00112233445566778899aabbccddeeff0123456789abcdeffedcba9876543210"
	others := []string{strings.ToUpper(right), "0x" + right[2:], "0x" + right, " " + right, right + "\n", right[:63] + " ", right[:62] + "é", right + right, strings.Repeat("g", 64), strings.Repeat("\x00", 64), strings.Repeat("+1", 32), strings.Repeat("a", 1<<20)}
	for n := range 130 {
		if n != 64 {
			others = append(others, strings.Repeat("0", n), strings.Repeat("f", n))
		}
	}
	for _, s := range others {
		if d, e := sha.Parse(s); d != [32]byte{} || e != api.ErrForm {
			t.Errorf("Parse(%.140q) is %x, %d", s, d, e)
		}
	}
	if d, e := sha.Parse(strings.Repeat("0", 64)); d != [32]byte{} || e != api.OK {
		t.Errorf("Parse of zeros is %x, %d", d, e)
	}
}
