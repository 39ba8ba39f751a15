package aes

import "math/bits"

const (
	rest  = 0x1b // what x^8 is, modulo x^8 + x^4 + x^3 + x + 1
	shift = 0x63 // so that no box is its own byte
)

// Mul: a product.
func Mul(a, b byte) byte {
	var product byte
	for ; b != 0; b >>= 1 {
		if b&1 != 0 {
			product ^= a
		}
		a = double(a)
	}
	return product
}

// Box: of a byte. It is read off the ciphers' own table, so that both are of one making.
func Box(b byte) byte { return allBoxes()[b] }

// double: the product with x.
func double(b byte) byte {
	if b&0x80 != 0 {
		return b<<1 ^ rest
	}
	return b << 1
}

// allBoxes: the powers of x + 1 are all bytes but 0, and the 255th is 1 again; so one walk through them meets each byte, and the byte whose product with the i-th is 1 is the i-th from the walk's end.
func allBoxes() [256]byte {
	var powers [255]byte
	power := byte(1)
	for i := range powers {
		powers[i] = power
		power ^= double(power)
	}
	var boxes [256]byte
	boxes[0] = bend(0)
	for i, b := range powers {
		boxes[b] = bend(powers[(len(powers)-i)%len(powers)])
	}
	return boxes
}

// bend: the bits at i + 4 to i + 7 come to i where the byte is turned by 4 to 1 to the left.
func bend(c byte) byte {
	sum := c
	for by := 1; by <= 4; by++ {
		sum ^= bits.RotateLeft8(c, by)
	}
	return sum ^ shift
}
