package sha

// blockSize is how many bytes a block has.
const blockSize = 64

// word is a number of 32 bits; its sums wrap around, as the sums of the definition do.
type word uint32

var constants = [64]uint32{
	0x428a2f98, 0x71374491, 0xb5c0fbcf, 0xe9b5dba5, 0x3956c25b, 0x59f111f1, 0x923f82a4, 0xab1c5ed5,
	0xd807aa98, 0x12835b01, 0x243185be, 0x550c7dc3, 0x72be5d74, 0x80deb1fe, 0x9bdc06a7, 0xc19bf174,
	0xe49b69c1, 0xefbe4786, 0x0fc19dc6, 0x240ca1cc, 0x2de92c6f, 0x4a7484aa, 0x5cb0a9dc, 0x76f988da,
	0x983e5152, 0xa831c66d, 0xb00327c8, 0xbf597fc7, 0xc6e00bf3, 0xd5a79147, 0x06ca6351, 0x14292967,
	0x27b70a85, 0x2e1b2138, 0x4d2c6dfc, 0x53380d13, 0x650a7354, 0x766a0abb, 0x81c2c92e, 0x92722c85,
	0xa2bfe8a1, 0xa81a664b, 0xc24b8b70, 0xc76c51a3, 0xd192e819, 0xd6990624, 0xf40e3585, 0x106aa070,
	0x19a4c116, 0x1e376c08, 0x2748774c, 0x34b0bcb5, 0x391c0cb3, 0x4ed8aa4a, 0x5b9cca4f, 0x682e6ff3,
	0x748f82ee, 0x78a5636f, 0x84c87814, 0x8cc70208, 0x90befffa, 0xa4506ceb, 0xbef9a3f7, 0xc67178f2,
}

var start = [8]uint32{0x6a09e667, 0xbb67ae85, 0x3c6ef372, 0xa54ff53a, 0x510e527f, 0x9b05688c, 0x1f83d9ab, 0x5be0cd19}

// Constants returns the constants.
func Constants() [64]uint32 { return constants }

// Start returns the start.
func Start() [8]uint32 { return start }

// Block takes a block into a state.
func Block(state [8]uint32, b [64]byte) [8]uint32 {
	var s [8]word
	for i, x := range state {
		s[i] = word(x)
	}
	for t, w := range schedule(b) {
		s = step(s, word(constants[t]), w)
	}
	for i, x := range s {
		state[i] += uint32(x)
	}
	return state
}

// schedule returns w(0) to w(63) of a block.
func schedule(b [64]byte) [64]word {
	var w [64]word
	for t := range 16 {
		w[t] = word(b[4*t])<<24 | word(b[4*t+1])<<16 | word(b[4*t+2])<<8 | word(b[4*t+3])
	}
	for t := 16; t < 64; t++ {
		w[t] = small1(w[t-2]) + w[t-7] + small0(w[t-15]) + w[t-16]
	}
	return w
}

// step returns the state after one of the 64 steps, with the constant k and the word w of the block.
func step(s [8]word, k, w word) [8]word {
	u := s[7] + large1(s[4]) + choose(s[4], s[5], s[6]) + k + w
	v := large0(s[0]) + majority(s[0], s[1], s[2])
	return [8]word{u + v, s[0], s[1], s[2], s[3] + u, s[4], s[5], s[6]}
}

// rot returns x rotated to the right by n bits, from 1 to 31.
func (x word) rot(n int) word { return x>>n | x<<(32-n) }

// shr returns x divided by 2 to the power of n.
func (x word) shr(n int) word { return x >> n }

// small0 and small1 are s0 and s1 of the definition, large0 and large1 its S0 and S1.
func small0(x word) word { return word.rot(x, 7) ^ word.rot(x, 18) ^ word.shr(x, 3) }

func small1(x word) word { return word.rot(x, 17) ^ word.rot(x, 19) ^ word.shr(x, 10) }

func large0(x word) word { return word.rot(x, 2) ^ word.rot(x, 13) ^ word.rot(x, 22) }

func large1(x word) word { return word.rot(x, 6) ^ word.rot(x, 11) ^ word.rot(x, 25) }

// choose returns the bits of y where x has a 1, and those of z where x has a 0.
func choose(x, y, z word) word { return x&y | ^x&z }

// majority returns the bits that at least two of the three have.
func majority(x, y, z word) word { return x&y | x&z | y&z }
