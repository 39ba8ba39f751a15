package gcm

import "iter"

const (
	blockLen = 16
	wordLen  = blockLen / 2
	wordBits = 8 * wordLen
	rest     = 0xe1 << (wordBits - 8) // what x^128 is, modulo x^128 + x^7 + x^2 + x + 1
)

// block: a polynomial, too: the highest bit of the first byte is the coefficient at x^0.
type block [blockLen]byte

// pieces: of a text, each as long as a block, but for the last one, which may be shorter.
func pieces(text string) iter.Seq[string] {
	return func(yield func(string) bool) {
		for at := 0; at < len(text); at += blockLen {
			if !yield(text[at:min(at+blockLen, len(text))]) {
				return
			}
		}
	}
}

// filled: a piece, with noughts behind it.
func filled(piece string) block {
	var b block
	copy(b[:], piece)
	return b
}

// text: of a block.
func (b block) text() string { return string(b[:]) }

// plus: the exclusive-or.
func (b block) plus(c block) block {
	for i := range b {
		b[i] ^= c[i]
	}
	return b
}

// times: the product. Bits choose by masks, not by branches, so that the time it takes doesn't hang on what the blocks hold.
func (b block) times(c block) block {
	chosen, power := b.words(), c.words()
	var sum [2]uint64
	for i := range 2 * wordBits {
		mask := -(chosen[i/wordBits] >> (wordBits - 1 - i%wordBits) & 1)
		sum[0] ^= power[0] & mask
		sum[1] ^= power[1] & mask
		over := -(power[1] & 1)
		power[1] = power[1]>>1 | power[0]<<(wordBits-1)
		power[0] = power[0]>>1 ^ rest&over
	}
	return filled(highFirst(sum[0], wordLen) + highFirst(sum[1], wordLen))
}

// words: of a block.
func (b block) words() [2]uint64 {
	var w [2]uint64
	for i, x := range b {
		w[i/wordLen] = w[i/wordLen]<<8 | uint64(x)
	}
	return w
}

// hash: of texts, each filled up to whole blocks, under h.
func hash(h block, texts ...string) block {
	var sum block
	for _, s := range texts {
		for piece := range pieces(s) {
			sum = sum.plus(filled(piece)).times(h)
		}
	}
	return sum
}

// highFirst: a number's bytes, so many.
func highFirst(number uint64, long int) string {
	out := make([]byte, long)
	for i := range out {
		out[i] = byte(number >> (8 * (long - 1 - i)))
	}
	return string(out)
}
