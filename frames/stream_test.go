package frames_test

import (
	"bytes"
	"slices"
	"testing"

	"groundling/api"
	"groundling/frames"
)

// alike reports whether lists have the same payloads.
func alike(a, b [][]byte) bool { return slices.EqualFunc(a, b, bytes.Equal) }

// reader reads streams by the definition: it knows what frames may begin with, up to four bytes, and the sizes of the payloads after those that are a head.
type reader struct {
	beginnings map[string]bool
	heads      map[string]int
}

func newReader() reader {
	r := reader{map[string]bool{}, map[string]int{}}
	for n := 1; n <= 1024; n++ {
		head := string(frame(make([]byte, n))[:4])
		r.heads[head] = n
		for k := range 5 {
			r.beginnings[head[:k]] = true
		}
	}
	return r
}

// read returns the payloads of a stream, and the state to which it leads.
func (r reader) read(stream []byte) (payloads [][]byte, s api.FmState) {
	var got []byte
	for _, x := range stream {
		got = append(got, x)
		if len(got) <= 4 && !r.beginnings[string(got)] {
			return payloads, api.FmState{Bad: true}
		}
		if len(got) > 4 && len(got) == 4+r.heads[string(got[:4])] {
			payloads, got = append(payloads, got[4:]), nil
		}
	}
	return payloads, api.FmState{Buf: string(got)}
}

// isState reports whether s is a state.
func (r reader) isState(s api.FmState) bool {
	if s.Bad {
		return s.Buf == ""
	}
	payloads, left := r.read([]byte(s.Buf))
	return len(payloads) == 0 && !left.Bad
}

// need returns what Need is by the definition, of a state.
func (r reader) need(s api.FmState) int {
	switch got := len(s.Buf); {
	case s.Bad:
		return 0
	case got < 4:
		return 4 - got + 1
	default:
		return r.heads[s.Buf[:4]] - (got - 4)
	}
}

// checkSplit checks what Split says of a stream, and returns it.
func (r reader) checkSplit(t *testing.T, stream []byte) ([][]byte, api.FmState) {
	t.Helper()
	before := bytes.Clone(stream)
	want, wantState := r.read(stream)
	payloads, s := frames.Split(stream)
	if !alike(payloads, want) || s != wantState {
		t.Fatalf("Split of %d is %d, %#v, not %d, %#v", stream, payloads, s, want, wantState)
	}
	if !bytes.Equal(stream, before) {
		t.Fatalf("%d has become %d", before, stream)
	}
	r.checkState(t, s)
	return payloads, s
}

// checkFeed checks what Feed of a state says, and returns it.
func (r reader) checkFeed(t *testing.T, s api.FmState, b []byte) (api.FmState, [][]byte) {
	t.Helper()
	before := bytes.Clone(b)
	want, wantNext := [][]byte(nil), s
	if !s.Bad {
		want, wantNext = r.read(slices.Concat([]byte(s.Buf), b))
	}
	next, payloads, e := frames.Feed(s, b)
	if !alike(payloads, want) || next != wantNext || e != api.OK {
		t.Fatalf("Feed of %#v and %d is %#v, %d, %d, not %#v, %d", s, b, next, payloads, e, wantNext, want)
	}
	if !bytes.Equal(b, before) {
		t.Fatalf("%d has become %d", before, b)
	}
	r.checkState(t, next)
	return next, payloads
}

// checkState checks what Check and Need say of s, and, if it is no state, Feed.
func (r reader) checkState(t *testing.T, s api.FmState) {
	t.Helper()
	if r.isState(s) {
		if e := frames.Check(s); e != api.OK {
			t.Fatalf("Check of %#v is %d", s, e)
		}
		if n, e := frames.Need(s); n != r.need(s) || e != api.OK {
			t.Fatalf("Need of %#v is %d, %d, not %d", s, n, e, r.need(s))
		}
		return
	}
	if e := frames.Check(s); e != api.ErrForm {
		t.Fatalf("Check of %#v is %d", s, e)
	}
	if n, e := frames.Need(s); n != 0 || e != api.ErrForm {
		t.Fatalf("Need of %#v is %d, %d", s, n, e)
	}
	for _, b := range []string{"", "a", "\x47\x01\x00\x01a"} {
		if next, payloads, e := frames.Feed(s, []byte(b)); next != (api.FmState{}) || len(payloads) > 0 || e != api.ErrForm {
			t.Fatalf("Feed of %#v is %#v, %d, %d", s, next, payloads, e)
		}
	}
}

// beginnings returns strings of up to four bytes: up to each of these all bytes, after those of a head, and after others.
func beginnings() [][]byte {
	all := [][]byte{nil}
	for x := range 256 {
		b := byte(x)
		all = append(all, []byte{b}, []byte{b, 1}, []byte{b, 1, 0}, []byte{b, 1, 0, 1}, []byte{b, 71})
		all = append(all, []byte{71, b}, []byte{71, b, 0}, []byte{71, b, 0, 1}, []byte{71, b, 4, 0}, []byte{1, b}, []byte{0, b})
		all = append(all, []byte{71, 1, b})
		for y := range 256 {
			all = append(all, []byte{71, 1, b, byte(y)})
		}
	}
	return all
}

// P7.2 and P7.3: all bytes of a head: with each one a stream may break, and what it says is needed.
func TestHeads(t *testing.T) {
	r := newReader()
	for _, b := range beginnings() {
		for _, bad := range []bool{false, true} {
			r.checkState(t, api.FmState{Buf: string(b), Bad: bad})
		}
		r.checkSplit(t, b)
		r.checkSplit(t, slices.Concat([]byte{71, 1, 0, 2, 8, 9}, b))
		r.checkSplit(t, slices.Concat(b, []byte("abc")))
		for k := range b {
			if s := (api.FmState{Buf: string(b[:k])}); r.isState(s) {
				r.checkFeed(t, s, b[k:])
			}
		}
	}
}

// P7.2 and P7.3: frames of all kinds of sizes, up to each of their bytes, whole, and with a byte more.
func TestBodies(t *testing.T) {
	r := newReader()
	for _, n := range sizes() {
		whole := append(frame(row(n, n)), 71)
		for k := range len(whole) + 1 {
			b := whole[:k]
			for _, bad := range []bool{false, true} {
				r.checkState(t, api.FmState{Buf: string(b), Bad: bad})
			}
			_, s := r.checkSplit(t, b)
			r.checkFeed(t, s, whole[k:])
		}
	}
}

// P7.2: buffers that would be more than a frame, or frames, or bytes without a head, are no states.
func TestNoStates(t *testing.T) {
	r := newReader()
	one := string(frame([]byte("a")))
	for _, buf := range []string{one, one + "\x47", one + one, one + "a", one[:4] + "\x47\x01", "a", "\x00", "abcdefgh", string(make([]byte, 3000)), "\x47\x01\x04\x00" + string(make([]byte, 1024)), "\x47\x01\x04\x00" + string(make([]byte, 70000)), "\x47\x01\x04\x01" + string(make([]byte, 100))} {
		for _, bad := range []bool{false, true} {
			s := api.FmState{Buf: buf, Bad: bad}
			if r.isState(s) {
				t.Fatalf("%#v is a state", s)
			}
			r.checkState(t, s)
		}
	}
	for _, buf := range []string{"\x47", "\x47\x01\x00", "\x47\x01\x00\x02a"} {
		r.checkState(t, api.FmState{Buf: buf, Bad: true})
	}
}

// P7.2: a stream that is broken stays so, and nothing is read.
func TestBroken(t *testing.T) {
	r := newReader()
	bad := api.FmState{Bad: true}
	r.checkState(t, bad)
	for _, b := range [][]byte{nil, {}, {71}, frame([]byte("a")), framesOf([][]byte{{1}, {2}}), {0}, make([]byte, 2000)} {
		if next, payloads := r.checkFeed(t, bad, b); next != bad || len(payloads) > 0 {
			t.Errorf("Feed of %d is %#v, %d", b, next, payloads)
		}
	}
}

// P7.2, P7.4 and P7.5: all short streams of bytes of heads and others, cut into two pieces anywhere.
func TestShortStreams(t *testing.T) {
	r := newReader()
	alphabet := []byte{71, 1, 0, 2, 5}
	const size = 7
	for n := range 5 * 5 * 5 * 5 * 5 * 5 * 5 {
		stream := make([]byte, size)
		for i := range stream {
			stream[i] = alphabet[n%5]
			n /= 5
		}
		for _, stream := range [][]byte{stream, slices.Concat([]byte{71, 1, 0}, stream)} {
			r.checkPieces(t, stream, stream[:3], stream[3:])
			payloads, s := r.checkSplit(t, stream)
			r.checkTogether(t, stream, payloads, s)
		}
	}
}

// checkPieces checks that the pieces lead to what the stream that they are leads to.
func (r reader) checkPieces(t *testing.T, stream []byte, pieces ...[]byte) {
	t.Helper()
	want, wantState := r.checkSplit(t, stream)
	var all [][]byte
	s := api.FmState{}
	for _, piece := range pieces {
		next, payloads := r.checkFeed(t, s, piece)
		s, all = next, append(all, payloads...)
	}
	if !alike(all, want) || s != wantState {
		t.Fatalf("%d is read as %d, %#v, in pieces %d as %d, %#v", stream, want, wantState, pieces, all, s)
	}
}

// checkTogether checks that the frames of the payloads, and the bytes of the state, are the stream, up to where it is broken.
func (r reader) checkTogether(t *testing.T, stream []byte, payloads [][]byte, s api.FmState) {
	t.Helper()
	all, e := frames.Join(payloads)
	all = append(all, s.Buf...)
	if s.Bad && len(all) < len(stream) && bytes.HasPrefix(stream, all) {
		_, rest := r.read(stream[len(all):])
		all, s = stream, rest
		if !s.Bad {
			t.Fatalf("%d is not broken", stream)
		}
	}
	if !bytes.Equal(all, stream) || e != api.OK {
		t.Fatalf("%d is read as %d, %#v", stream, payloads, s)
	}
}

// stream returns up to many frames, and at times what is the beginning of one, or breaks the stream.
func (s *source) stream(many, size int) []byte {
	var b []byte
	for range s.below(many + 1) {
		b = append(b, frame(s.some(1+s.below(size)))...)
	}
	switch rest := frame(s.some(1 + s.below(size))); s.below(4) {
	case 0:
		b = append(b, rest[:s.below(len(rest))]...)
	case 1:
		b = append(b, s.some(s.below(9))...)
	case 2:
		if len(b) > 0 {
			b[s.below(len(b))] ^= 1 << s.below(8)
		}
	}
	return b
}

// cut returns pieces of a stream, of up to size bytes, some without bytes.
func (s *source) cut(stream []byte, size int) [][]byte {
	var pieces [][]byte
	for len(stream) > 0 {
		n := min(s.below(size+1), len(stream))
		pieces = append(pieces, stream[:n])
		stream = stream[n:]
	}
	return append(pieces, nil)
}

// P7.4 and P7.5: streams in pieces of all sizes.
func TestPieces(t *testing.T) {
	r := newReader()
	s := source(2)
	for i := range 3000 {
		size := 12
		if i%150 == 0 {
			size = 1024
		}
		stream := s.stream(6, size)
		r.checkPieces(t, stream, s.cut(stream, 1)...)
		r.checkPieces(t, stream, s.cut(stream, 2+s.below(8))...)
		r.checkPieces(t, stream, s.cut(stream, 2*size)...)
		payloads, state := frames.Split(stream)
		r.checkTogether(t, stream, payloads, state)
	}
	r.checkPieces(t, nil)
	for _, stream := range [][]byte{nil, {}, {71}, {71, 1, 0, 1}, {72}} {
		r.checkPieces(t, stream, nil, stream, nil, []byte{})
	}
}

// P7.5: Split of Join is the payloads, with nothing left.
func TestSplitOfJoin(t *testing.T) {
	s := source(3)
	check := func(payloads [][]byte) {
		t.Helper()
		b, e := frames.Join(payloads)
		again, state := frames.Split(b)
		if !alike(again, payloads) || state != (api.FmState{}) || e != api.OK {
			t.Fatalf("%d is joined with %d, and read as %d, %#v", payloads, e, again, state)
		}
	}
	check(nil)
	for n := 1; n <= 1024; n++ {
		check([][]byte{row(n, 0)})
		check([][]byte{s.some(n), s.some(1025 - n)})
	}
	for _, n := range []int{3, 30, 1000} {
		var payloads [][]byte
		for range n {
			payloads = append(payloads, s.some(1+s.below(1024)))
		}
		check(payloads)
	}
	check([][]byte{frame([]byte("a")), frame(frame([]byte("b")))})
}

// P7.2: a stream may have more payloads than are joined.
func TestManyFrames(t *testing.T) {
	r := newReader()
	for _, n := range []int{999, 1000, 1001, 5000} {
		var payloads [][]byte
		for i := range n {
			payloads = append(payloads, row(1+i%7, i))
		}
		stream := framesOf(payloads)
		for _, end := range []string{"", "\x47\x01", "x"} {
			all, _ := r.checkSplit(t, append(stream, end...))
			if !alike(all, payloads) {
				t.Fatalf("%d payloads are read, of %d", len(all), n)
			}
		}
		r.checkPieces(t, stream, stream[:3], stream[3:n], stream[n:])
	}
}

// P7.6: what is read before a stream is broken, or before anything, is there whatever comes after.
func TestBeforeBroken(t *testing.T) {
	r := newReader()
	s := source(4)
	ends := [][]byte{{71}, {71, 1, 0, 1, 9}, {0, 0}, frame(make([]byte, 1024)), s.some(300)}
	for range 300 {
		stream := s.stream(5, 9)
		broken := false
		var last [][]byte
		for k := range len(stream) + 1 {
			payloads, state := r.checkSplit(t, stream[:k])
			if len(payloads) < len(last) || !alike(payloads[:len(last)], last) || broken && (len(payloads) > len(last) || !state.Bad) {
				t.Fatalf("of %d, %d bytes are read as %d, %#v, and less as %d", stream, k, payloads, state, last)
			}
			last, broken = payloads, state.Bad
			if !broken {
				continue
			}
			for _, end := range ends {
				if again, state := r.checkSplit(t, slices.Concat(stream[:k], end)); !alike(again, payloads) || !state.Bad {
					t.Fatalf("of %d, %d bytes, and others, are read as %d, %#v", stream, k, again, state)
				}
			}
		}
	}
}

// P7.6 and P7.3: with fewer bytes than Need says no payload is read, whatever they are; with as many there is one, if they are those of the frame.
func TestNeed(t *testing.T) {
	s := source(5)
	for _, n := range sizes() {
		whole := frame(row(n, 0))
		for k := range len(whole) {
			state := api.FmState{Buf: string(whole[:k])}
			need, e := frames.Need(state)
			if need < 1 || need > len(whole)-k || e != api.OK {
				t.Fatalf("Need of %d is %d, %d", whole[:k], need, e)
			}
			for _, b := range [][]byte{whole[k : k+need-1], make([]byte, need-1), s.some(need - 1), s.some(s.below(need))} {
				if _, payloads, e := frames.Feed(state, b); len(payloads) > 0 || e != api.OK {
					t.Fatalf("of %d, which need %d, with %d more, %d is read, %d", whole[:k], need, len(b), payloads, e)
				}
			}
			if k < 4 && n > 1 {
				continue
			}
			if next, payloads, e := frames.Feed(state, whole[k:k+need]); !alike(payloads, [][]byte{whole[4:]}) || next != (api.FmState{}) || e != api.OK {
				t.Fatalf("of %d, with the %d bytes that it needs, %d is read, %#v, %d", whole[:k], need, payloads, next, e)
			}
		}
	}
}
