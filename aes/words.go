package aes

import "keyloft/api"

const (
	wordLen  = 4
	keyWords = api.KeyLen / wordLen
	allWords = blockLen / wordLen * (rounds + 1)
)

// word: of a key, or a block's column.
type word [wordLen]byte

// square: a block, column by column; a row's byte stands at the row's place in each.
type square [blockLen / wordLen]word

// plus: the exclusive-or.
func (w word) plus(v word) word {
	for i := range w {
		w[i] ^= v[i]
	}
	return w
}

// each: byte by byte.
func (w word) each(box func(byte) byte) word {
	for i, b := range w {
		w[i] = box(b)
	}
	return w
}

// mixed: by the matrix 2 3 1 1; 3 is 2 and 1.
func (w word) mixed() word {
	var m word
	for i, b := range w {
		next := w[(i+1)%wordLen]
		m[i] = double(b) ^ double(next) ^ next ^ w[(i+2)%wordLen] ^ w[(i+3)%wordLen]
	}
	return m
}

// widen: a key's round keys.
func widen(key string, box func(byte) byte) [allWords]word {
	var words [allWords]word
	for i := range keyWords {
		copy(words[i][:], key[wordLen*i:])
	}
	power := byte(1)
	for i := keyWords; i < allWords; i++ {
		t := words[i-1]
		switch i % keyWords {
		case 0:
			t = word{t[1], t[2], t[3], t[0]}.each(box)
			t[0] ^= power
			power = double(power)
		case keyWords / 2: // a key of this length alone asks for boxes here
			t = t.each(box)
		}
		words[i] = words[i-keyWords].plus(t)
	}
	return words
}

// columns: of a block's text.
func columns(text string) square {
	var s square
	for i := range s {
		copy(s[i][:], text[wordLen*i:])
	}
	return s
}

// text: of a block.
func (s square) text() string {
	out := make([]byte, 0, blockLen)
	for _, w := range s {
		out = append(out, w[:]...)
	}
	return string(out)
}

// boxed: each byte.
func boxed(s square, box func(byte) byte) square {
	for i := range s {
		s[i] = s[i].each(box)
	}
	return s
}

// turn: each row to the left, by its number.
func turn(s square) square {
	var t square
	for i := range t {
		for row := range wordLen {
			t[i][row] = s[(i+row)%len(s)][row]
		}
	}
	return t
}

// mix: each column.
func mix(s square) square {
	for i := range s {
		s[i] = s[i].mixed()
	}
	return s
}
