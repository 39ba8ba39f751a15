package aes_test

import "testing"

// back: what turns a pressed block to the one that was pressed; that there is such a thing says that unlike blocks are pressed to unlike ones.
type back struct {
	words [60][4]byte
	unbox [256]byte
	times [256][16]byte
}

func newBack(key string) *back {
	b := &back{}
	var box [256]byte
	for i := range 256 {
		box[i] = boxOf(byte(i))
		b.unbox[box[i]] = byte(i)
		for _, by := range []byte{9, 11, 13, 14} {
			b.times[i][by] = product(byte(i), by)
		}
	}
	power := byte(1)
	for i := range 60 {
		if i < 8 {
			copy(b.words[i][:], key[4*i:])
			continue
		}
		t := b.words[i-1]
		if i%8 == 0 {
			t = [4]byte{box[t[1]] ^ power, box[t[2]], box[t[3]], box[t[0]]}
			power = product(power, 2)
		} else if i%8 == 4 {
			t = [4]byte{box[t[0]], box[t[1]], box[t[2]], box[t[3]]}
		}
		for k := range 4 {
			b.words[i][k] = b.words[i-8][k] ^ t[k]
		}
	}
	return b
}

func (b *back) add(s *[16]byte, round int) {
	for i := range s {
		s[i] ^= b.words[4*round+i/4][i%4]
	}
}

func (b *back) unturnUnbox(s *[16]byte) {
	from := *s
	for i := range from {
		row, column := i%4, i/4
		s[(column+row)%4*4+row] = b.unbox[from[i]]
	}
}

func (b *back) unmix(s *[16]byte) {
	from := *s
	for i := range s {
		c := i / 4 * 4
		at := func(by int) byte { return from[c+(i+by)%4] }
		s[i] = b.times[at(0)][14] ^ b.times[at(1)][11] ^ b.times[at(2)][13] ^ b.times[at(3)][9]
	}
}

func (b *back) unpress(pressed string) string {
	s := [16]byte([]byte(pressed))
	b.add(&s, 14)
	b.unturnUnbox(&s)
	for round := 13; round >= 1; round-- {
		b.add(&s, round)
		b.unmix(&s)
		b.unturnUnbox(&s)
	}
	b.add(&s, 0)
	return string(s[:])
}

// mixer: bytes without a pattern, the same in each run.
func mixer(seed uint64) func(n int) string {
	return func(n int) string {
		b := make([]byte, n)
		for i := range b {
			seed = seed*6364136223846793005 + 1442695040888963407
			b[i] = byte(seed >> 56)
		}
		return string(b)
	}
}

// P1.1, P1.2: what was pressed can be told from what it was pressed to, by the chapter's steps gone back.
func TestPressedIsToldBack(t *testing.T) {
	draw := mixer(1)
	for range 20 {
		key := draw(32)
		c, b := cipher(t, key), newBack(key)
		for range 100 {
			block := draw(16)
			if s := b.unpress(press(t, c, block)); s != block {
				t.Fatalf("%x under %x is told back as %x", block, key, s)
			}
		}
	}
}

// P1.2: blocks that differ in one byte, or in one bit of two bytes, are pressed to unlike ones.
func TestPressedAreUnlike(t *testing.T) {
	for _, key := range []string{string(make([]byte, 32)), mixer(2)(32)} {
		c := cipher(t, key)
		seen := map[string]string{}
		look := func(block []byte) {
			s := press(t, c, string(block))
			if old, ok := seen[s]; ok && old != string(block) {
				t.Fatalf("%x and %x are both pressed to %x", old, block, s)
			}
			seen[s] = string(block)
		}
		for at := range 16 {
			for v := range 256 {
				block := make([]byte, 16)
				block[at] = byte(v)
				look(block)
			}
		}
		for i := range 128 {
			for j := range i {
				block := make([]byte, 16)
				block[i/8] ^= 1 << (i % 8)
				block[j/8] ^= 1 << (j % 8)
				look(block)
			}
		}
		if want := 1 + 16*255 + 128*127/2 - 16*28; len(seen) != want {
			t.Errorf("%d pressed blocks, not %d", len(seen), want)
		}
	}
}

// P1.1: a word of the key plays its part wherever it stands: with any bit of the key turned the pressed block is another one.
func TestEachBitOfTheKeyCounts(t *testing.T) {
	key := []byte(mixer(3)(32))
	block := mixer(4)(16)
	seen := map[string]bool{press(t, cipher(t, string(key)), block): true}
	for i := range 256 {
		key[i/8] ^= 1 << (i % 8)
		seen[press(t, cipher(t, string(key)), block)] = true
		key[i/8] ^= 1 << (i % 8)
	}
	if len(seen) != 257 {
		t.Errorf("%d pressed blocks of 257 keys", len(seen))
	}
}
