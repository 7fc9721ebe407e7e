package hmac

import (
	"groundling/api"
	"groundling/sha"
)

// Mac is bytes that are written in parts, and a key.
type Mac struct {
	// self is the mac itself, in one that New returned: so it is known from a zero value, and from a value to which one was assigned.
	self *Mac
	inner
	// outer is the outer pad of the key.
	outer [blockSize]byte
}

// inner is the hash of the inner pad of a key, and of the bytes after it. It is a type of its own, as a mac that embeds a sha.Hash would have its Sum, Len and Copy too.
type inner struct {
	pad  [blockSize]byte
	hash *sha.Hash
}

// newInner returns the hash of a pad, with no bytes after it.
func newInner(pad [blockSize]byte) inner {
	i := inner{pad, sha.New()}
	i.write(pad[:])
	return i
}

// write adds bytes. The hash returns no error here or below, as sha.New made it.
func (i inner) write(b []byte) { i.hash.Write(b) }

// sum returns the digest of the pad and the bytes.
func (i inner) sum() [32]byte {
	digest, _ := i.hash.Sum()
	return digest
}

// restart takes all bytes away, but for the pad.
func (i inner) restart() {
	i.hash.Reset()
	i.write(i.pad[:])
}

// New returns a mac.
func New(key []byte) *Mac {
	block := Block(key)
	m := &Mac{inner: newInner(padOf(block, innerByte)), outer: padOf(block, outerByte)}
	m.self = m
	return m
}

// Write adds bytes.
func (m *Mac) Write(b []byte) api.Errno {
	if !m.isMade() {
		return api.ErrNil
	}
	m.write(b)
	return api.OK
}

// Tag returns the tag of all bytes.
func (m *Mac) Tag() ([32]byte, api.Errno) {
	if !m.isMade() {
		return [32]byte{}, api.ErrNil
	}
	return m.tag(), api.OK
}

// Verify compares a tag.
func (m *Mac) Verify(tag []byte) api.Errno {
	if !m.isMade() {
		return api.ErrNil
	}
	return compare(m.tag(), tag)
}

// Reset takes all bytes away.
func (m *Mac) Reset() api.Errno {
	if !m.isMade() {
		return api.ErrNil
	}
	m.restart()
	return api.OK
}

// isMade reports whether New returned m.
func (m *Mac) isMade() bool { return m != nil && m.self == m }

// tag returns the tag of the bytes.
func (m *Mac) tag() [32]byte {
	var b [blockSize + 32]byte
	digest := m.sum()
	copy(b[:], m.outer[:])
	copy(b[blockSize:], digest[:])
	return sha.Sum(b[:])
}
