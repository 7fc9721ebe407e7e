package hmac_test

import (
	"bytes"
	crypto "crypto/hmac"
	"crypto/sha256"
	"encoding/hex"
	"slices"
	"strings"
	"testing"

	"groundling/api"
	"groundling/hmac"
)

// source gives numbers that look like random ones, the same ones in each run.
type source uint64

func (s *source) next() uint64 {
	*s ^= *s << 13
	*s ^= *s >> 7
	*s ^= *s << 17
	return uint64(*s)
}

func (s *source) below(n int) int { return int(s.next() % uint64(n)) }

func (s *source) bytes(n int) []byte {
	b := make([]byte, n)
	for i := range b {
		b[i] = byte(s.next() >> 30)
	}
	return b
}

// wantBlock is the block of a key by the definition.
func wantBlock(key []byte) [64]byte {
	if len(key) > 64 {
		d := sha256.Sum256(key)
		return [64]byte(slices.Concat(d[:], make([]byte, 32)))
	}
	return [64]byte(slices.Concat(key, make([]byte, 64-len(key))))
}

// wantTag is the tag by the definition.
func wantTag(key, b []byte) [32]byte {
	in, out := wantBlock(key), wantBlock(key)
	for i := range 64 {
		in[i] ^= 54
		out[i] ^= 92
	}
	d := sha256.Sum256(slices.Concat(in[:], b))
	return sha256.Sum256(slices.Concat(out[:], d[:]))
}

// otherTag is the tag by the library of Go.
func otherTag(key, b []byte) [32]byte {
	h := crypto.New(sha256.New, key)
	h.Write(b)
	return [32]byte(h.Sum(nil))
}

// checkTag checks Block, Tag and Verify, and that they leave their arguments as they are.
func checkTag(t *testing.T, key, b []byte) {
	t.Helper()
	keyBefore, before := slices.Clone(key), slices.Clone(b)
	if got := hmac.Block(key); got != wantBlock(key) {
		t.Fatalf("Block(%x) is %x, not %x", key, got, wantBlock(key))
	}
	got := hmac.Tag(key, b)
	if got != wantTag(key, b) || got != otherTag(key, b) {
		t.Fatalf("Tag(%x, %x) is %x, not %x", key, b, got, wantTag(key, b))
	}
	if e := hmac.Verify(key, b, got[:]); e != api.OK {
		t.Fatalf("Verify(%x, %x) of the tag is %d", key, b, e)
	}
	if !bytes.Equal(key, keyBefore) || !bytes.Equal(b, before) {
		t.Fatalf("(%x, %x) has become (%x, %x)", keyBefore, before, key, b)
	}
}

// P4.1: keys of all lengths around that of a block, with bytes of many lengths.
func TestTag(t *testing.T) {
	s := source(1)
	for keySize := range 200 {
		key := s.bytes(keySize)
		checkTag(t, key, nil)
		checkTag(t, key, []byte{})
		checkTag(t, nil, key)
		for size := 1; size <= 150; size += 5 {
			checkTag(t, key, s.bytes(size))
		}
	}
	for _, fill := range []byte{0, 54, 92, 255} {
		for _, keySize := range []int{0, 1, 32, 63, 64, 65, 128, 1000} {
			checkTag(t, bytes.Repeat([]byte{fill}, keySize), bytes.Repeat([]byte{fill}, 3*keySize))
		}
	}
	checkTag(t, s.bytes(100000), s.bytes(200001))
}

// P4.1: each bit of a key is in its place of the block.
func TestBlockBits(t *testing.T) {
	for bit := range 512 {
		key := make([]byte, 64)
		key[bit/8] ^= 1 << (bit % 8)
		if got := hmac.Block(key); !bytes.Equal(got[:], key) {
			t.Errorf("Block(%x) is %x", key, got)
		}
		checkTag(t, key, []byte("abc"))
	}
}

// P4.1, and the examples: the test cases of RFC 4231.
func TestPublished(t *testing.T) {
	counted := make([]byte, 25)
	for i := range counted {
		counted[i] = byte(i + 1)
	}
	fill := func(b byte, n int) []byte { return bytes.Repeat([]byte{b}, n) }
	for i, c := range []struct {
		key, b []byte
		want   string
	}{
		{fill(11, 20), []byte("Hi There"), "b0344c61d8db38535ca8afceaf0bf12b881dc200c9833da726e9376c2e32cff7"},
		{[]byte("Jefe"), []byte("what do ya want for nothing?"), "5bdcc146bf60754e6a042426089575c75a003f089d2739839dec58b964ec3843"},
		{fill(0xaa, 20), fill(0xdd, 50), "773ea91e36800e46854db8ebd09181a72959098b3ef8c122d9635514ced565fe"},
		{counted, fill(0xcd, 50), "82558a389a443c0ea4cc819899f2083a85f0faa3e578f8077a2e3ff46729665b"},
		{fill(12, 20), []byte("Test With Truncation"), "a3b6167473100ee06e0c796c2955552b"},
		{fill(0xaa, 131), []byte("Test Using Larger Than Block-Size Key - Hash Key First"), "60e431591ee0b67f0d8a26aacbf5b77f8e0bc6213728c5140546040f0ee37f54"},
		{fill(0xaa, 131), []byte("This is a test using a larger than block-size key and a larger than block-size data. The key needs to be hashed before being used by the HMAC algorithm."), "9b09ffa71b942fcb27635fbcd5b0e944bfdc63644f0713938a7f51535c3a35e2"},
	} {
		tag := hmac.Tag(c.key, c.b)
		if got := hex.EncodeToString(tag[:]); !strings.HasPrefix(got, c.want) {
			t.Errorf("the tag of test case %d is %s, not %s", i+1, got, c.want)
		}
		checkTag(t, c.key, c.b)
	}
}

// P4.5: a key has the tags of the key followed by bytes 0, up to 64; a longer one has those of its digest.
func TestKeysAlike(t *testing.T) {
	s := source(2)
	for size := range 130 {
		key, b := s.bytes(size), s.bytes(40)
		want := hmac.Tag(key, b)
		for longer := size + 1; longer <= 64; longer++ {
			if got := hmac.Tag(slices.Concat(key, make([]byte, longer-size)), b); got != want {
				t.Errorf("the key %x has another tag with bytes 0, up to %d", key, longer)
			}
		}
		digest := sha256.Sum256(key)
		if alike := hmac.Tag(digest[:], b) == want; alike != (size > 64) {
			t.Errorf("the key of %d bytes and its digest are alike: %v", size, alike)
		}
		if size >= 64 && hmac.Tag(slices.Concat(key, []byte{0}), b) == want {
			t.Errorf("the key of %d bytes has the same tag with a byte 0 more", size)
		}
	}
}

// checkRefused checks that Verify refuses a tag, with the mac m of the same key and bytes too.
func checkRefused(t *testing.T, key, b, tag []byte, m *hmac.Mac) {
	t.Helper()
	before := slices.Clone(tag)
	if e := hmac.Verify(key, b, tag); e != api.ErrAuth {
		t.Fatalf("Verify(%x, %x, %x) is %d", key, b, tag, e)
	}
	if e := m.Verify(tag); e != api.ErrAuth {
		t.Fatalf("Verify(%x) of a mac is %d", tag, e)
	}
	if !bytes.Equal(tag, before) {
		t.Fatalf("Verify changes the tag %x to %x", before, tag)
	}
}

// P4.2, P4.3 and P4.4 (T4): the tag is accepted, and none with another bit or two, or another length.
func TestVerify(t *testing.T) {
	s := source(3)
	for _, sizes := range [][2]int{{0, 0}, {1, 0}, {20, 8}, {32, 64}, {64, 100}, {65, 1}, {131, 152}} {
		key, b := s.bytes(sizes[0]), s.bytes(sizes[1])
		m := hmac.New(key)
		m.Write(b)
		right := wantTag(key, b)
		if e, e2 := hmac.Verify(key, b, right[:]), m.Verify(right[:]); e != api.OK || e2 != api.OK {
			t.Fatalf("the tag of (%x, %x) is refused: %d, %d", key, b, e, e2)
		}
		for one := range 256 {
			for two := range one + 1 {
				tag := right
				tag[one/8] ^= 1 << (one % 8)
				if two != one {
					tag[two/8] ^= 1 << (two % 8)
				}
				checkRefused(t, key, b, tag[:], m)
			}
		}
		for size := range 32 {
			checkRefused(t, key, b, right[:size], m)
			checkRefused(t, key, b, right[size+1:], m)
			checkRefused(t, key, b, slices.Concat(right[:], make([]byte, size+1)), m)
			checkRefused(t, key, b, slices.Concat(right[:], s.bytes(size+1)), m)
			checkRefused(t, key, b, slices.Concat(make([]byte, size+1), right[:]), m)
		}
		checkRefused(t, key, b, nil, m)
		checkRefused(t, key, b, slices.Concat(right[:], make([]byte, 256-32)), m)
		checkRefused(t, key, b, slices.Concat(right[:], make([]byte, 256)), m)
		checkRefused(t, key, b, slices.Concat(right[:], make([]byte, 65536)), m)
		checkRefused(t, key, b, slices.Concat(right[:], right[:]), m)
		if e := m.Verify(right[:]); e != api.OK {
			t.Fatalf("the tag of (%x, %x) is refused afterwards: %d", key, b, e)
		}
	}
}

// P4.4: the tag of other bytes, or under another key, is refused.
func TestVerifyOthers(t *testing.T) {
	s := source(4)
	key, b := s.bytes(64), s.bytes(70)
	right := hmac.Tag(key, b)
	for bit := range 512 {
		other := slices.Clone(key)
		other[bit/8] ^= 1 << (bit % 8)
		if e := hmac.Verify(other, b, right[:]); e != api.ErrAuth {
			t.Errorf("Verify with bit %d of the key changed is %d", bit, e)
		}
	}
	for bit := range 560 {
		other := slices.Clone(b)
		other[bit/8] ^= 1 << (bit % 8)
		if e := hmac.Verify(key, other, right[:]); e != api.ErrAuth {
			t.Errorf("Verify with bit %d of the bytes changed is %d", bit, e)
		}
	}
	for size := range b {
		if e := hmac.Verify(key, b[:size], right[:]); e != api.ErrAuth {
			t.Errorf("Verify with %d bytes is %d", size, e)
		}
	}
	for _, other := range [][]byte{slices.Concat(b, []byte{0}), slices.Concat([]byte{0}, b), slices.Concat(b, b)} {
		if e := hmac.Verify(key, other, right[:]); e != api.ErrAuth {
			t.Errorf("Verify with %x is %d", other, e)
		}
	}
}

// R6: the same arguments lead to the same, whatever was called before.
func TestSameAgain(t *testing.T) {
	s := source(5)
	for range 100 {
		key, b := s.bytes(s.below(100)), s.bytes(s.below(300))
		block, tag := hmac.Block(key), hmac.Tag(key, b)
		hmac.Tag(s.bytes(77), b)
		hmac.Equal(key, b)
		hmac.New(s.bytes(10)).Write(key)
		if hmac.Block(key) != block || hmac.Tag(key, b) != tag {
			t.Errorf("the tag of (%x, %x) is another one", key, b)
		}
	}
}

// R6: calls at the same time do not touch each other.
func TestCallsAtOnce(t *testing.T) {
	done := make(chan bool)
	for i := range 8 {
		go func() {
			s := source(i + 1)
			ok := true
			for n := range 100 {
				key, b := s.bytes(n), s.bytes(3*n)
				m := hmac.New(key)
				m.Write(b[:n])
				m.Write(b[n:])
				tag, e := m.Tag()
				ok = ok && e == api.OK && tag == otherTag(key, b) && hmac.Tag(key, b) == tag && hmac.Verify(key, b, tag[:]) == api.OK
			}
			done <- ok
		}()
	}
	for range 8 {
		if !<-done {
			t.Error("a call at the same time as others has another result")
		}
	}
}
