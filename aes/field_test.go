package aes_test

import (
	"testing"

	"keyloft/aes"
)

// product: long multiplication, then long division by x^8 + x^4 + x^3 + x + 1.
func product(a, b byte) byte {
	sum := 0
	for i := range 8 {
		if b>>i&1 == 1 {
			sum ^= int(a) << i
		}
	}
	for i := 14; i >= 8; i-- {
		if sum>>i&1 == 1 {
			sum ^= 0x11b << (i - 8)
		}
	}
	return byte(sum)
}

// boxOf: bit by bit, as the chapter's Words tell it.
func boxOf(b byte) byte {
	c := byte(0)
	for i := range 256 {
		if product(b, byte(i)) == 1 {
			c = byte(i)
		}
	}
	out := byte(0)
	for i := range 8 {
		bit := byte(0x63) >> i
		for _, by := range []int{0, 4, 5, 6, 7} {
			bit ^= c >> ((i + by) % 8)
		}
		out |= bit & 1 << i
	}
	return out
}

// P1.1: FIPS 197's examples, then all products there are.
func TestMul(t *testing.T) {
	for _, x := range [][3]byte{{0x57, 0x83, 0xc1}, {0x57, 0x13, 0xfe}, {0x57, 0x02, 0xae}, {0x57, 0x04, 0x47}, {0x57, 0x08, 0x8e}, {0x57, 0x10, 0x07}, {0x80, 0x02, 0x1b}, {0x53, 0xca, 0x01}, {0xff, 0xff, 0x13}, {0, 0xff, 0}, {0xff, 0, 0}, {1, 0xff, 0xff}, {0xff, 1, 0xff}} {
		if p := aes.Mul(x[0], x[1]); p != x[2] {
			t.Errorf("%x by %x: %x, not %x", x[0], x[1], p, x[2])
		}
	}
	for a := range 256 {
		for b := range 256 {
			if p := aes.Mul(byte(a), byte(b)); p != product(byte(a), byte(b)) {
				t.Fatalf("%x by %x: %x, not %x", a, b, p, product(byte(a), byte(b)))
			}
		}
	}
}

// P1.1: the chapter's examples and FIPS 197's corners of the table, then all boxes there are.
func TestBox(t *testing.T) {
	for b, box := range map[byte]byte{0: 0x63, 0x53: 0xed, 0x01: 0x7c, 0x0f: 0x76, 0x10: 0xca, 0x52: 0, 0x80: 0xcd, 0xf0: 0x8c, 0xff: 0x16} {
		if x := aes.Box(b); x != box {
			t.Errorf("%x: %x, not %x", b, x, box)
		}
	}
	for b := range 256 {
		if x := aes.Box(byte(b)); x != boxOf(byte(b)) {
			t.Errorf("%x: %x, not %x", b, x, boxOf(byte(b)))
		}
	}
}

// P1.2: each byte is the box of one alone.
func TestBoxesAreUnlike(t *testing.T) {
	var of [256]int
	for b := range 256 {
		of[aes.Box(byte(b))]++
	}
	for b, n := range of {
		if n != 1 {
			t.Errorf("%x is the box of %d bytes", b, n)
		}
	}
}
