package frames

import (
	"iter"
	"slices"

	"groundling/api"
)

// Check returns whether s is a state.
func Check(s api.FmState) api.Errno {
	b := []byte(s.Buf)
	if s.Bad && len(b) > 0 || isBroken(b) || len(b) >= leastSize(b) {
		return api.ErrForm
	}
	return api.OK
}

// Feed reads bytes after those that have led to s.
func Feed(s api.FmState, b []byte) (next api.FmState, payloads [][]byte, e api.Errno) {
	if e := Check(s); e != api.OK {
		return api.FmState{}, nil, e
	}
	if s.Bad {
		return s, nil, api.OK
	}
	payloads, next = Split(slices.Concat([]byte(s.Buf), b))
	return next, payloads, api.OK
}

// Split reads bytes with which a stream begins.
func Split(b []byte) (payloads [][]byte, s api.FmState) {
	for payload, rest := range framesOf(b) {
		payloads = append(payloads, slices.Clone(payload))
		b = rest
	}
	if isBroken(b) {
		return payloads, api.FmState{Bad: true}
	}
	return payloads, api.FmState{Buf: string(b)}
}

// Need returns how many bytes must come before a payload can be read.
func Need(s api.FmState) (int, api.Errno) {
	if e := Check(s); e != api.OK || s.Bad {
		return 0, e
	}
	b := []byte(s.Buf)
	return leastSize(b) - len(b), api.OK
}

// framesOf yields the payloads of the frames with which a stream begins, each with the bytes after its frame.
func framesOf(stream []byte) iter.Seq2[[]byte, []byte] {
	return func(yield func(payload, rest []byte) bool) {
		for !isBroken(stream) && len(stream) >= leastSize(stream) {
			frame, rest := stream[:leastSize(stream)], stream[leastSize(stream):]
			if !yield(frame[api.FmHead:], rest) {
				return
			}
			stream = rest
		}
	}
}

// isBroken reports whether the first bytes of a stream are not the beginning of a frame. Only bytes of a head can show it.
func isBroken(stream []byte) bool {
	switch min(len(stream), api.FmHead) {
	case 4:
		if size := sizeIn(stream); size == 0 || size > api.MaxFmBody {
			return true
		}
		fallthrough
	case 3:
		if int(stream[2]) > api.MaxFmBody>>8 {
			return true
		}
		fallthrough
	case 2:
		if stream[1] != api.FmVersion {
			return true
		}
		fallthrough
	case 1:
		return stream[0] != api.FmMagic
	}
	return false
}

// leastSize returns how many bytes the frame has with whose first bytes a stream begins: without a whole head, how many a frame has at least.
func leastSize(stream []byte) int {
	if len(stream) < api.FmHead {
		return api.FmHead + 1
	}
	return api.FmHead + sizeIn(stream)
}

// sizeIn returns what the head of a stream says of the size of its payload.
func sizeIn(stream []byte) int { return length(stream[2:api.FmHead]).number() }
