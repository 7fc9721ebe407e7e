package frames_test

import (
	"bytes"
	"slices"
	"testing"

	"groundling/api"
	"groundling/frames"
)

// roomy returns the bytes with more of them behind, in the same memory.
func roomy(b []byte) []byte { return append(slices.Grow(bytes.Clone(b), 50), "left alone"...)[:len(b)] }

// behind returns the bytes behind b, in the same memory.
func behind(b []byte) string { return string(b[:len(b)+10][len(b):]) }

// overwrite writes into all of the memory of b, also behind it.
func overwrite(b []byte) {
	b = b[:cap(b)]
	for i := range b {
		b[i] ^= 0xff
	}
}

// P7.7 and R3: what Frame and Join return is new memory.
func TestFrameIsNew(t *testing.T) {
	payload, other := roomy([]byte("abc")), roomy([]byte("de"))
	payloads := [][]byte{payload, other, payload}
	b, _ := frames.Frame(payload)
	again, _ := frames.Frame(payload)
	all, _ := frames.Join(payloads)
	overwrite(b)
	if string(payload) != "abc" || behind(payload) != "left alone" || !bytes.Equal(again, frame(payload)) || !bytes.Equal(all, framesOf(payloads)) {
		t.Errorf("with a frame %q, %q and %q have changed", payload, again, all)
	}
	overwrite(all)
	if string(payload) != "abc" || string(other) != "de" || behind(payload) != "left alone" || behind(other) != "left alone" || !alike(payloads, [][]byte{[]byte("abc"), []byte("de"), []byte("abc")}) {
		t.Errorf("with frames %q have changed", payloads)
	}
	b, _ = frames.Frame(payload)
	all, _ = frames.Join(payloads)
	overwrite(payload)
	if string(b) != "\x47\x01\x00\x03abc" || string(all) != "\x47\x01\x00\x03abc\x47\x01\x00\x02de\x47\x01\x00\x03abc" {
		t.Errorf("with a payload %q and %q have changed", b, all)
	}
}

// P7.7 and R3: what Split and Feed return is new memory, each payload of its own; bytes behind the stream stay.
func TestPayloadsAreNew(t *testing.T) {
	want := [][]byte{[]byte("abc"), []byte("d"), []byte("efgh"), []byte("i")}
	const end = "\x47\x01\x00\x05"
	whole := append(framesOf(want), end...)
	for k := range 7 {
		stream := roomy(whole[k:])
		state := api.FmState{Buf: string(whole[:k])}
		next, payloads, e := frames.Feed(state, stream)
		if k == 0 {
			payloads, next = frames.Split(stream)
		}
		if !alike(payloads, want) || next.Buf != end || e != api.OK {
			t.Fatalf("%d: %q is read, %q, %d", k, payloads, next.Buf, e)
		}
		if behind(stream) != "left alone" || !bytes.Equal(stream, whole[k:]) || state.Buf != string(whole[:k]) {
			t.Errorf("%d: %q, %q has become %q, %q", k, whole[:k], whole[k:], state.Buf, stream[:cap(stream)])
		}
		for i := range payloads {
			overwrite(payloads[i])
			if !alike(payloads[i+1:], want[i+1:]) || !bytes.Equal(stream, whole[k:]) || behind(stream) != "left alone" {
				t.Errorf("%d: with payload %d, others have changed, or the stream: %q, %q", k, i, payloads, stream)
			}
			overwrite(payloads[i])
		}
		overwrite(stream)
		if !alike(payloads, want) || next.Buf != end {
			t.Errorf("%d: with the stream %q have changed, or %q", k, payloads, next.Buf)
		}
	}
}

// R6: calls at the same time do not touch each other, even with the same arguments.
func TestCallsAtOnce(t *testing.T) {
	want := [][]byte{[]byte("abc"), []byte("d"), row(1024, 5)}
	stream := append(framesOf(want), 71, 1)
	state := api.FmState{Buf: string(stream[:2])}
	done := make(chan bool)
	for range 8 {
		go func() {
			ok := true
			for range 500 {
				b, e := frames.Join(want)
				one, e2 := frames.Frame(want[2])
				payloads, s := frames.Split(stream)
				next, fed, e3 := frames.Feed(state, stream[2:])
				n, e4 := frames.Need(s)
				ok = ok && bytes.Equal(b, stream[:len(stream)-2]) && bytes.Equal(one, frame(want[2])) && alike(payloads, want) && alike(fed, want) && s == state && next == state && n == 3 && e+e2+e3+e4 == api.OK
			}
			done <- ok
		}()
	}
	for range 8 {
		if !<-done {
			t.Error("a call at the same time as others has another result")
		}
	}
}

// P7.7 and R1: any bytes are accepted, as a payload, as a stream, and as a state; the same call returns the same.
func TestAnyArguments(t *testing.T) {
	r := newReader()
	s := source(6)
	for range 20000 {
		b := s.some(s.below(40))
		if s.below(2) == 0 && len(b) > 3 {
			copy(b, []byte{71, 1, byte(s.below(6)), byte(s.next())}[:1+s.below(4)])
		}
		state := api.FmState{Buf: string(b), Bad: s.below(8) == 0}
		r.checkState(t, state)
		r.checkSplit(t, b)
		r.checkSplit(t, b)
		if r.isState(state) {
			r.checkFeed(t, state, s.stream(3, 20))
		}
		if len(b) > 0 {
			checkFrame(t, b)
		}
	}
}
