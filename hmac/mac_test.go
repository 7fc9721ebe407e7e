package hmac_test

import (
	"bytes"
	"slices"
	"testing"

	"groundling/api"
	"groundling/hmac"
)

// checkMac checks that m has the bytes b under the key, twice, since it stays as it is.
func checkMac(t *testing.T, m *hmac.Mac, key, b []byte) {
	t.Helper()
	for range 2 {
		tag, e := m.Tag()
		if tag != wantTag(key, b) || e != api.OK {
			t.Fatalf("the tag of %x under %x is %x, %d, not %x", b, key, tag, e, wantTag(key, b))
		}
		if e := m.Verify(tag[:]); e != api.OK {
			t.Fatalf("Verify of the tag of %x under %x is %d", b, key, e)
		}
		tag[31] ^= 1
		if e := m.Verify(tag[:]); e != api.ErrAuth {
			t.Fatalf("Verify of another tag is %d", e)
		}
	}
}

func write(t *testing.T, m *hmac.Mac, b []byte) {
	t.Helper()
	before := slices.Clone(b)
	if e := m.Write(b); e != api.OK {
		t.Fatalf("Write is %d", e)
	}
	if !bytes.Equal(b, before) {
		t.Fatalf("Write changes %x to %x", before, b)
	}
}

func reset(t *testing.T, m *hmac.Mac) {
	t.Helper()
	if e := m.Reset(); e != api.OK {
		t.Fatalf("Reset is %d", e)
	}
}

// P4.3 and P4.5: bytes in parts, cut anywhere, under keys of all kinds.
func TestParts(t *testing.T) {
	s := source(7)
	b := s.bytes(150)
	for _, keySize := range []int{0, 1, 20, 63, 64, 65, 200} {
		key := s.bytes(keySize)
		for first := 0; first <= len(b); first += 3 {
			for second := first; second <= len(b); second += 7 {
				m := hmac.New(key)
				checkMac(t, m, key, nil)
				write(t, m, b[:first])
				write(t, m, nil)
				checkMac(t, m, key, b[:first])
				write(t, m, b[first:second])
				write(t, m, []byte{})
				checkMac(t, m, key, b[:second])
				write(t, m, b[second:])
				checkMac(t, m, key, b)
			}
		}
		for size := 1; size <= len(b); size++ {
			m := hmac.New(key)
			for part := range slices.Chunk(b, size) {
				write(t, m, part)
			}
			if tag, _ := m.Tag(); tag != hmac.Tag(key, b) {
				t.Errorf("the tag in parts of %d is %x", size, tag)
			}
		}
	}
}

// P4.3: after Reset a mac is as a new one with its key, however often, and whatever was written.
func TestReset(t *testing.T) {
	s := source(8)
	for _, keySize := range []int{0, 5, 64, 65, 130} {
		key := s.bytes(keySize)
		m := hmac.New(key)
		for size := range 150 {
			reset(t, m)
			checkMac(t, m, key, nil)
			b := s.bytes(size)
			write(t, m, b)
			checkMac(t, m, key, b)
		}
		for range 3 {
			reset(t, m)
			checkMac(t, m, key, nil)
		}
	}
}

// P4.3 and R3: the key, what is written, tags that are given and tags that are returned are not kept: they may change afterwards; room after them stays as it is.
func TestNothingIsKept(t *testing.T) {
	for _, keySize := range []int{0, 1, 63, 64, 65, 130} {
		room := bytes.Repeat([]byte{7}, 200)
		wantRoom := slices.Clone(room)
		key := bytes.Repeat([]byte{7}, keySize)
		m := hmac.New(room[:keySize])
		write(t, m, room[:100])
		tag, _ := m.Tag()
		given := slices.Concat(tag[:], room)
		m.Verify(given[:32])
		hmac.Verify(room[:keySize], room[:100], given[:32])
		hmac.Block(room[:keySize])
		if !bytes.Equal(room, wantRoom) || !bytes.Equal(given[32:], wantRoom) {
			t.Fatalf("what is after the bytes is changed: %v, %v", room, given)
		}
		clear(room)
		clear(given)
		clear(tag[:])
		checkMac(t, m, key, wantRoom[:100])
		reset(t, m)
		checkMac(t, m, key, nil)
	}
}

// P4.3, P4.5 and R6: many calls, in all orders, of several macs, against the bytes that each should have.
func TestManyCalls(t *testing.T) {
	s := source(9)
	macs, keys, want := make([]*hmac.Mac, 3), make([][]byte, 3), make([][]byte, 3)
	for i := range macs {
		macs[i] = hmac.New(nil)
	}
	for range 3000 {
		i := s.below(len(macs))
		switch s.below(10) {
		case 0:
			keys[i], want[i] = s.bytes(s.below(130)), nil
			macs[i] = hmac.New(keys[i])
		case 1:
			reset(t, macs[i])
			want[i] = nil
		default:
			b := s.bytes(s.below(150))
			write(t, macs[i], b)
			want[i] = append(want[i], b...)
			clear(b)
		}
		for k, m := range macs {
			checkMac(t, m, keys[k], want[k])
		}
	}
}

// checkNone checks that no method of m does anything, as New did not return it.
func checkNone(t *testing.T, what string, m *hmac.Mac) {
	t.Helper()
	for _, b := range [][]byte{nil, {}, {1}, make([]byte, 32), make([]byte, 1000)} {
		if e := m.Write(b); e != api.ErrNil {
			t.Errorf("%s: Write is %d", what, e)
		}
		if e := m.Verify(b); e != api.ErrNil {
			t.Errorf("%s: Verify is %d", what, e)
		}
	}
	if tag, e := m.Tag(); tag != [32]byte{} || e != api.ErrNil {
		t.Errorf("%s: Tag is %x, %d", what, tag, e)
	}
	if e := m.Reset(); e != api.ErrNil {
		t.Errorf("%s: Reset is %d", what, e)
	}
}

// The methods of what New did not return: nothing happens, also not to the mac of which it is a value.
func TestNoMac(t *testing.T) {
	var none *hmac.Mac
	zero := hmac.Mac{}
	for range 2 {
		checkNone(t, "nil", none)
		checkNone(t, "a zero value", &zero)
		checkNone(t, "a new zero value", new(hmac.Mac))
	}
	if zero != (hmac.Mac{}) {
		t.Error("a zero value is changed")
	}
	key := []byte("key")
	m := hmac.New(key)
	write(t, m, []byte("abc"))
	value := *m
	checkNone(t, "a value of a mac", &value)
	checkMac(t, m, key, []byte("abc"))
	write(t, m, []byte("d"))
	checkNone(t, "a value of a mac", &value)
	checkMac(t, m, key, []byte("abcd"))
}
