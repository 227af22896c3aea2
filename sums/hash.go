package sums

import (
	"math/bits"

	"braid/api"
)

const (
	blockSize = 64
	// lengthAt is where in the last block the text's length stands.
	lengthAt = 56
)

// block is what the state takes in at once.
type block [blockSize]byte

// state is what has become of the blocks so far.
type state [8]uint32

// rounds are the first 32 binary places behind the point of the cube roots of the first sixty-four primes.
var rounds = [64]uint32{
	0x428a2f98, 0x71374491, 0xb5c0fbcf, 0xe9b5dba5, 0x3956c25b, 0x59f111f1, 0x923f82a4, 0xab1c5ed5,
	0xd807aa98, 0x12835b01, 0x243185be, 0x550c7dc3, 0x72be5d74, 0x80deb1fe, 0x9bdc06a7, 0xc19bf174,
	0xe49b69c1, 0xefbe4786, 0x0fc19dc6, 0x240ca1cc, 0x2de92c6f, 0x4a7484aa, 0x5cb0a9dc, 0x76f988da,
	0x983e5152, 0xa831c66d, 0xb00327c8, 0xbf597fc7, 0xc6e00bf3, 0xd5a79147, 0x06ca6351, 0x14292967,
	0x27b70a85, 0x2e1b2138, 0x4d2c6dfc, 0x53380d13, 0x650a7354, 0x766a0abb, 0x81c2c92e, 0x92722c85,
	0xa2bfe8a1, 0xa81a664b, 0xc24b8b70, 0xc76c51a3, 0xd192e819, 0xd6990624, 0xf40e3585, 0x106aa070,
	0x19a4c116, 0x1e376c08, 0x2748774c, 0x34b0bcb5, 0x391c0cb3, 0x4ed8aa4a, 0x5b9cca4f, 0x682e6ff3,
	0x748f82ee, 0x78a5636f, 0x84c87814, 0x8cc70208, 0x90befffa, 0xa4506ceb, 0xbef9a3f7, 0xc67178f2,
}

// firstState is the first 32 binary places behind the point of the square roots of the first eight primes.
func firstState() state {
	return state{
		0x6a09e667, 0xbb67ae85, 0x3c6ef372, 0xa54ff53a,
		0x510e527f, 0x9b05688c, 0x1f83d9ab, 0x5be0cd19,
	}
}

// Hash takes a text piece by piece.
type Hash struct {
	// made tells a Hash that New or Fork gave from a plain one.
	made bool
	now  state
	// left begins with what has come of a block that is not full yet.
	left block
	size uint64
}

// New has taken nothing.
func New() *Hash {
	h := fresh()
	return &h
}

func fresh() Hash { return Hash{made: true, now: firstState()} }

func (h *Hash) plain() bool { return h == nil || !h.made }

// Write takes one piece more.
func (h *Hash) Write(b []byte) {
	if h.plain() {
		return
	}
	h.take(b)
}

func (h *Hash) take(b []byte) {
	at := int(h.size % blockSize)
	h.size += uint64(len(b))
	for len(b) > 0 {
		n := copy(h.left[at:], b)
		b = b[n:]
		at += n
		if at == blockSize {
			h.now = mixed(h.now, h.left)
			at = 0
		}
	}
}

// Sum is the long sum of all that was taken.
func (h *Hash) Sum() api.Sum {
	if h.plain() {
		return api.Sum{}
	}
	return h.digest()
}

// digest pads a copy, so that one may go on with h.
func (h *Hash) digest() api.Sum {
	last := *h
	length := eight(h.size << 3)
	last.take(padding(h.size))
	last.take(length[:])
	var s api.Sum
	for i, w := range last.now {
		s[4*i], s[4*i+1], s[4*i+2], s[4*i+3] = byte(w>>24), byte(w>>16), byte(w>>8), byte(w)
	}
	return s
}

// padding is what stands between a text of n bytes and its length.
func padding(n uint64) []byte {
	zeros := (lengthAt + blockSize - 1 - n%blockSize) % blockSize
	p := make([]byte, 1+zeros)
	p[0] = 0x80
	return p
}

// Size is how many bytes were taken.
func (h *Hash) Size() uint64 {
	if h.plain() {
		return 0
	}
	return h.size
}

// Fork is a Hash of its own that has taken the same.
func (h *Hash) Fork() *Hash {
	if h.plain() {
		return nil
	}
	f := *h
	return &f
}

// mixed is the state behind one block more.
func mixed(s state, from block) state {
	words := schedule(from)
	a, b, c, d, e, f, g, h := s[0], s[1], s[2], s[3], s[4], s[5], s[6], s[7]
	for t, w := range words {
		x := h + (turned(e, 6) ^ turned(e, 11) ^ turned(e, 25)) + (e&f ^ ^e&g) + rounds[t] + w
		y := (turned(a, 2) ^ turned(a, 13) ^ turned(a, 22)) + (a&b ^ a&c ^ b&c)
		h, g, f, e, d, c, b, a = g, f, e, d+x, c, b, a, x+y
	}
	for i, v := range (state{a, b, c, d, e, f, g, h}) {
		s[i] += v
	}
	return s
}

// schedule is a block's sixteen words, and the forty-eight that are made of them.
func schedule(b block) [64]uint32 {
	var w [64]uint32
	for t := range 16 {
		w[t] = word(b[4*t], b[4*t+1], b[4*t+2], b[4*t+3])
	}
	for t := 16; t < len(w); t++ {
		p, q := w[t-15], w[t-2]
		s0 := turned(p, 7) ^ turned(p, 18) ^ p>>3
		s1 := turned(q, 17) ^ turned(q, 19) ^ q>>10
		w[t] = w[t-16] + s0 + w[t-7] + s1
	}
	return w
}

// turned moves a word's bits n places to the right; those that fall out come in again at the left.
func turned(w uint32, n int) uint32 { return bits.RotateLeft32(w, -n) }
