package sha

import "math/bits"

const (
	blockLen = 64
	countLen = 8 // of the count of bits that ends the last block
	wordLen  = 4
	rounds   = 64
)

// block: as many bytes as are pressed at once.
type block [blockLen]byte

// state: what is left of all blocks that were pressed; behind the last one, the digest.
type state [8]uint32

// roots: the first 32 bits behind the point of the third roots of the first 64 primes.
var roots = [rounds]uint32{
	0x428a2f98, 0x71374491, 0xb5c0fbcf, 0xe9b5dba5, 0x3956c25b, 0x59f111f1, 0x923f82a4, 0xab1c5ed5,
	0xd807aa98, 0x12835b01, 0x243185be, 0x550c7dc3, 0x72be5d74, 0x80deb1fe, 0x9bdc06a7, 0xc19bf174,
	0xe49b69c1, 0xefbe4786, 0x0fc19dc6, 0x240ca1cc, 0x2de92c6f, 0x4a7484aa, 0x5cb0a9dc, 0x76f988da,
	0x983e5152, 0xa831c66d, 0xb00327c8, 0xbf597fc7, 0xc6e00bf3, 0xd5a79147, 0x06ca6351, 0x14292967,
	0x27b70a85, 0x2e1b2138, 0x4d2c6dfc, 0x53380d13, 0x650a7354, 0x766a0abb, 0x81c2c92e, 0x92722c85,
	0xa2bfe8a1, 0xa81a664b, 0xc24b8b70, 0xc76c51a3, 0xd192e819, 0xd6990624, 0xf40e3585, 0x106aa070,
	0x19a4c116, 0x1e376c08, 0x2748774c, 0x34b0bcb5, 0x391c0cb3, 0x4ed8aa4a, 0x5b9cca4f, 0x682e6ff3,
	0x748f82ee, 0x78a5636f, 0x84c87814, 0x8cc70208, 0x90befffa, 0xa4506ceb, 0xbef9a3f7, 0xc67178f2,
}

// start: the state of no block, the first 32 bits behind the point of the square roots of the first 8 primes.
func start() state {
	return state{0x6a09e667, 0xbb67ae85, 0x3c6ef372, 0xa54ff53a, 0x510e527f, 0x9b05688c, 0x1f83d9ab, 0x5be0cd19}
}

// ending: what fills up the last block of so many bytes: a bit 1, bits 0, and how many bits came, so that unlike texts stay unlike where they are filled up.
func ending(count int) string {
	zeros := (2*blockLen - 1 - countLen - count%blockLen) % blockLen
	end := make([]byte, 1+zeros, 1+zeros+countLen)
	end[0] = 0x80
	came := uint64(count) * 8
	for i := range countLen {
		end = append(end, byte(came>>(8*(countLen-1-i))))
	}
	return string(end)
}

// press: one block more. The eight words keep the standard's names.
func (s state) press(from block) state {
	words := widen(from)
	a, b, c, d, e, f, g, h := s[0], s[1], s[2], s[3], s[4], s[5], s[6], s[7]
	for i, w := range words {
		x := h + turned(e, 6, 11, 25) + pick(e, f, g) + roots[i] + w
		y := turned(a, 2, 13, 22) + most(a, b, c)
		a, b, c, d, e, f, g, h = x+y, a, b, c, d+x, e, f, g
	}
	return s.plus(state{a, b, c, d, e, f, g, h})
}

// plus: word by word.
func (s state) plus(more state) state {
	for i, w := range more {
		s[i] += w
	}
	return s
}

// text: the words' bytes, the highest first.
func (s state) text() string {
	out := make([]byte, 0, len(s)*wordLen)
	for _, w := range s {
		out = append(out, byte(w>>24), byte(w>>16), byte(w>>8), byte(w))
	}
	return string(out)
}

// widen: a block's words, and as many more as there are rounds.
func widen(from block) [rounds]uint32 {
	var w [rounds]uint32
	for i, b := range from {
		w[i/wordLen] = w[i/wordLen]<<8 | uint32(b)
	}
	for i := blockLen / wordLen; i < rounds; i++ {
		w[i] = shifted(w[i-2], 17, 19, 10) + w[i-7] + shifted(w[i-15], 7, 18, 3) + w[i-16]
	}
	return w
}

// turned: three turns to the right of one word.
func turned(w uint32, by1, by2, by3 int) uint32 {
	return bits.RotateLeft32(w, -by1) ^ bits.RotateLeft32(w, -by2) ^ bits.RotateLeft32(w, -by3)
}

// shifted: two turns to the right of one word, and a shift that loses bits.
func shifted(w uint32, by1, by2, lost int) uint32 {
	return bits.RotateLeft32(w, -by1) ^ bits.RotateLeft32(w, -by2) ^ w>>lost
}

// pick: a bit of yes where the one of which is 1, else of no.
func pick(which, yes, no uint32) uint32 { return which&yes ^ ^which&no }

// most: of each three bits the one that two have.
func most(a, b, c uint32) uint32 { return a&b ^ a&c ^ b&c }
