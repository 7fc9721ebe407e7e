package sha

import "groundling/api"

// Hash is bytes that are written in parts.
type Hash struct {
	// self is the hash itself, in one that New or Copy returned: so it is known from a zero value, and from a value to which one was assigned.
	self  *Hash
	taken taken
}

// taken is what the digest needs to know of bytes: how many they are, the state after their whole blocks, and the bytes after these, with which last begins.
type taken struct {
	size  uint64
	state [8]uint32
	last  [blockSize]byte
}

// New returns a hash without bytes.
func New() *Hash { return made(nothing()) }

// Write adds bytes.
func (h *Hash) Write(b []byte) api.Errno {
	if !h.isMade() {
		return api.ErrNil
	}
	h.taken = h.taken.with(b)
	return api.OK
}

// Sum returns the digest of all bytes.
func (h *Hash) Sum() ([32]byte, api.Errno) {
	if !h.isMade() {
		return [32]byte{}, api.ErrNil
	}
	return h.taken.digest(), api.OK
}

// Len returns how many bytes there are.
func (h *Hash) Len() (int64, api.Errno) {
	if !h.isMade() {
		return 0, api.ErrNil
	}
	return int64(h.taken.size), api.OK
}

// Copy returns another hash with the same bytes.
func (h *Hash) Copy() (*Hash, api.Errno) {
	if !h.isMade() {
		return nil, api.ErrNil
	}
	return made(h.taken), api.OK
}

// Reset takes all bytes away.
func (h *Hash) Reset() api.Errno {
	if !h.isMade() {
		return api.ErrNil
	}
	h.taken = nothing()
	return api.OK
}

// made returns a new hash of these bytes.
func made(t taken) *Hash {
	h := &Hash{taken: t}
	h.self = h
	return h
}

// isMade reports whether New or Copy returned h.
func (h *Hash) isMade() bool { return h != nil && h.self == h }

// nothing returns what is known of no bytes.
func nothing() taken { return taken{state: start} }

// with returns what is known of the bytes and b after them.
func (t taken) with(b []byte) taken {
	for len(b) > 0 {
		n := copy(t.last[t.size%blockSize:], b)
		t.size += uint64(n)
		b = b[n:]
		if t.size%blockSize == 0 {
			t.state = Block(t.state, t.last)
		}
	}
	return t
}

// digest returns the digest of the bytes.
func (t taken) digest() [32]byte {
	padded := t.with(padding(t.size))
	var d [32]byte
	for i, x := range padded.state {
		for j := range 4 {
			d[4*i+j] = byte(x >> (24 - 8*j))
		}
	}
	return d
}
