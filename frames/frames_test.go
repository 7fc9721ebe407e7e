package frames_test

import (
	"bytes"
	"slices"
	"testing"

	"groundling/api"
	"groundling/frames"
)

// source gives numbers that look like random ones, the same ones in each run.
type source uint64

func (s *source) next() uint64 {
	*s ^= *s << 13
	*s ^= *s >> 7
	*s ^= *s << 17
	return uint64(*s)
}

func (s *source) below(n int) int { return int(s.next() >> 1 % uint64(n)) }

// some returns n bytes: any, or those of which heads consist.
func (s *source) some(n int) []byte {
	b := make([]byte, n)
	ofHeads := s.below(2) == 0
	for i := range b {
		b[i] = []byte{71, 1, 0, 2, 4}[s.below(5)]
		if !ofHeads {
			b[i] = byte(s.next() >> 20)
		}
	}
	return b
}

// sizes returns how many bytes payloads of the tests have.
func sizes() []int { return []int{1, 2, 3, 71, 127, 128, 255, 256, 257, 511, 512, 513, 1023, 1024} }

// noSizes returns how many bytes no payload has; of some the last two bytes would be those of a size.
func noSizes() []int {
	return []int{0, 1025, 1026, 1279, 1280, 2048, 4096, 65535, 65536, 65537, 65541, 66560, 1 << 20}
}

// row returns n bytes: they go up from first on.
func row(n, first int) []byte {
	b := make([]byte, n)
	for i := range b {
		b[i] = byte(first + i)
	}
	return b
}

// frame returns the frame of a payload by the definition.
func frame(payload []byte) []byte {
	n := len(payload)
	return slices.Concat([]byte{71, 1, byte(n / 256), byte(n % 256)}, payload)
}

// framesOf returns the frames of payloads by the definition.
func framesOf(payloads [][]byte) []byte {
	var all []byte
	for _, payload := range payloads {
		all = append(all, frame(payload)...)
	}
	return all
}

// checkFrame checks that Frame of the payload, and Join of it alone, are the frame.
func checkFrame(t *testing.T, payload []byte) {
	t.Helper()
	before, want := bytes.Clone(payload), frame(payload)
	if b, e := frames.Frame(payload); !bytes.Equal(b, want) || e != api.OK {
		t.Fatalf("Frame of %d bytes is %d, %d", len(payload), b, e)
	}
	if b, e := frames.Join([][]byte{payload}); !bytes.Equal(b, want) || e != api.OK {
		t.Fatalf("Join of %d bytes is %d, %d", len(payload), b, e)
	}
	if !bytes.Equal(payload, before) {
		t.Fatalf("%d has become %d", before, payload)
	}
}

// The examples.
func TestExamples(t *testing.T) {
	if b, e := frames.Frame([]byte("ab")); !bytes.Equal(b, []byte{71, 1, 0, 2, 97, 98}) || e != api.OK {
		t.Errorf("Frame of ab is %d, %d", b, e)
	}
	if b, e := frames.Frame(nil); len(b) > 0 || e != api.ErrForm {
		t.Errorf("Frame of no bytes is %d, %d", b, e)
	}
	if b, e := frames.Frame(make([]byte, 1025)); len(b) > 0 || e != api.ErrLong {
		t.Errorf("Frame of 1025 bytes is %d, %d", b, e)
	}
	payloads, s := frames.Split([]byte{71, 1, 0, 1, 97, 71, 1})
	if !alike(payloads, [][]byte{[]byte("a")}) || s != (api.FmState{Buf: "\x47\x01"}) {
		t.Errorf("Split is %q, %q", payloads, s.Buf)
	}
	next, payloads, e := frames.Feed(s, []byte{0, 1, 98, 99})
	if !alike(payloads, [][]byte{[]byte("b")}) || next != (api.FmState{Bad: true}) || e != api.OK {
		t.Errorf("Feed is %#v, %q, %d", next, payloads, e)
	}
	for _, b := range [][]byte{{72}, {71, 2}, {71, 1, 5}, {71, 1, 0, 0}, {71, 1, 4, 1}} {
		if payloads, s := frames.Split(b); len(payloads) > 0 || s != (api.FmState{Bad: true}) {
			t.Errorf("Split of %d is %q, %#v", b, payloads, s)
		}
	}
	for buf, want := range map[string]int{"": 5, "\x47\x01": 3, "\x47\x01\x00\x09a": 8} {
		if n, e := frames.Need(api.FmState{Buf: buf}); n != want || e != api.OK {
			t.Errorf("Need of %q is %d, %d", buf, n, e)
		}
	}
}

// P7.1: payloads of all sizes, and of all bytes.
func TestFrame(t *testing.T) {
	for n := 1; n <= 1024; n++ {
		checkFrame(t, row(n, n))
		checkFrame(t, bytes.Repeat([]byte{byte(n)}, n))
	}
	for x := range 256 {
		checkFrame(t, []byte{byte(x)})
		checkFrame(t, []byte{71, 1, 0, byte(x)})
	}
}

// P7.1: Frame of what is no payload.
func TestFrameErrors(t *testing.T) {
	for _, n := range noSizes() {
		want := api.ErrLong
		if n == 0 {
			want = api.ErrForm
		}
		if b, e := frames.Frame(make([]byte, n)); len(b) > 0 || e != want {
			t.Errorf("Frame of %d bytes is %d, %d", n, b, e)
		}
	}
	if b, e := frames.Frame(nil); len(b) > 0 || e != api.ErrForm {
		t.Errorf("Frame of nil is %d, %d", b, e)
	}
}

// checkJoin checks that Join of payloads is their frames.
func checkJoin(t *testing.T, payloads [][]byte) {
	t.Helper()
	var before [][]byte
	for _, payload := range payloads {
		before = append(before, bytes.Clone(payload))
	}
	if b, e := frames.Join(payloads); !bytes.Equal(b, framesOf(payloads)) || e != api.OK {
		t.Fatalf("Join of %d payloads is %d, %d", len(payloads), b, e)
	}
	if !alike(payloads, before) {
		t.Fatalf("%d have become %d", before, payloads)
	}
}

// P7.1: Join of none, of few and of up to 1000 payloads, of all sizes.
func TestJoin(t *testing.T) {
	checkJoin(t, nil)
	checkJoin(t, [][]byte{})
	for _, a := range sizes() {
		for _, b := range sizes() {
			checkJoin(t, [][]byte{row(a, 1), row(b, 7)})
			checkJoin(t, [][]byte{row(b, 3), row(a, 2), row(b, 1)})
		}
	}
	s := source(1)
	for _, n := range []int{10, 100, 999, 1000} {
		var payloads, large [][]byte
		for i := range n {
			payloads = append(payloads, s.some(1+s.below(40)))
			large = append(large, row(1024, i))
		}
		checkJoin(t, payloads)
		checkJoin(t, large)
	}
}

// checkJoinError checks that Join returns the error, and no bytes.
func checkJoinError(t *testing.T, what string, payloads [][]byte, want api.Errno) {
	t.Helper()
	if b, e := frames.Join(payloads); len(b) > 0 || e != want {
		t.Errorf("%s: Join of %d payloads is %d bytes, %d, not %d", what, len(payloads), len(b), e, want)
	}
}

// P7.1: the error of the first payload that has one, wherever it is; that there are more than 1000 comes before.
func TestJoinErrors(t *testing.T) {
	good, empty, long := []byte("a"), []byte{}, make([]byte, 1025)
	for n := range 5 {
		before := slices.Repeat([][]byte{good}, n)
		for _, after := range [][][]byte{nil, {good}, {empty}, {long}, {nil, long, good}} {
			checkJoinError(t, "empty", slices.Concat(before, [][]byte{empty}, after), api.ErrForm)
			checkJoinError(t, "nil", slices.Concat(before, [][]byte{nil}, after), api.ErrForm)
			checkJoinError(t, "long", slices.Concat(before, [][]byte{long}, after), api.ErrLong)
		}
	}
	for _, n := range noSizes() {
		want := api.ErrLong
		if n == 0 {
			want = api.ErrForm
		}
		checkJoinError(t, "size", [][]byte{good, make([]byte, n), good}, want)
	}
	full := slices.Repeat([][]byte{good}, 1000)
	full[999] = empty
	checkJoinError(t, "the last one is empty", full, api.ErrForm)
	for _, n := range []int{1001, 1002, 3000} {
		for _, payload := range [][]byte{good, empty, nil, long} {
			checkJoinError(t, "too many", slices.Repeat([][]byte{payload}, n), api.ErrLong)
		}
	}
	checkJoinError(t, "too many, one is empty", append(full, good), api.ErrLong)
}
