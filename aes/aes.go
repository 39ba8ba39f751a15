// Package aes is layer 1, the block cipher: AES with keys of 256 bits, one way. See shared/doc/01-aes.md.
package aes

import "keyloft/api"

const (
	blockLen = 16
	rounds   = 14 // the last one doesn't mix
)

// Cipher: a key's. It keeps the boxes, too, so that they are made once, not with each block.
type Cipher struct {
	boxes [256]byte
	words [allWords]word
}

// New: a key's cipher.
func New(key string) (*Cipher, api.Errno) {
	if len(key) != api.KeyLen {
		return nil, api.ErrForm
	}
	c := &Cipher{boxes: allBoxes()}
	c.words = widen(key, c.asker())
	return c, api.OK
}

// Press: a block.
func (c *Cipher) Press(block string) (string, api.Errno) {
	if len(block) != blockLen {
		return "", api.ErrForm
	}
	box := c.asker()
	s := c.add(columns(block), 0)
	for round := 1; round < rounds; round++ {
		s = c.add(mix(turn(boxed(s, box))), round)
	}
	s = c.add(turn(boxed(s, box)), rounds)
	return s.text(), api.OK
}

// asker: what is handed down to all that boxes bytes, so that it needs to know no table.
func (c *Cipher) asker() func(byte) byte {
	return func(b byte) byte { return c.boxes[b] }
}

// add: each round takes four words more.
func (c *Cipher) add(s square, round int) square {
	for i := range s {
		s[i] = s[i].plus(c.words[len(s)*round+i])
	}
	return s
}
