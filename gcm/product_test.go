package gcm_test

import (
	"strings"
	"testing"

	"keyloft/api"
	"keyloft/gcm"
)

func product(t *testing.T, a, b string) string {
	t.Helper()
	s, e := gcm.Product(a, b)
	if e != api.OK || len(s) != 16 {
		t.Fatalf("Product of %x and %x: %d, %d bytes", a, b, e, len(s))
	}
	return s
}

// coefficients: of a block, by the chapter's order of its bits.
func coefficients(b string) [128]bool {
	var c [128]bool
	for i := range c {
		c[i] = b[i/8]&(0x80>>(i%8)) != 0
	}
	return c
}

// slowProduct: the chapter's words: all products of two coefficients, and then from the highest on x^i is taken for x^(i-128) times x^7 + x^2 + x + 1.
func slowProduct(a, b string) string {
	var whole [255]bool
	x, y := coefficients(a), coefficients(b)
	for i := range x {
		for j := range y {
			whole[i+j] = whole[i+j] != (x[i] && y[j])
		}
	}
	for i := 254; i >= 128; i-- {
		if whole[i] {
			for _, by := range []int{7, 2, 1, 0} {
				whole[i-128+by] = !whole[i-128+by]
			}
		}
	}
	out := make([]byte, 16)
	for i := range 128 {
		if whole[i] {
			out[i/8] |= 0x80 >> (i % 8)
		}
	}
	return string(out)
}

// power: x^i.
func power(i int) string {
	b := make([]byte, 16)
	b[i/8] = 0x80 >> (i % 8)
	return string(b)
}

func plus(a, b string) string {
	out := []byte(a)
	for i := range out {
		out[i] ^= b[i]
	}
	return string(out)
}

// P4.1: the first step of the hash in the example that came with the standard, and the highest powers.
func TestKnownProducts(t *testing.T) {
	for _, x := range [][3]string{
		{"66e94bd4ef8a2c3b884cfa59ca342b2e", "0388dace60b6a392f328c2b971b2fe78", "5e2ec746917062882c85b0685353deb7"},
		{"80000000000000000000000000000000", "0388dace60b6a392f328c2b971b2fe78", "0388dace60b6a392f328c2b971b2fe78"},
		{"00000000000000000000000000000000", "0388dace60b6a392f328c2b971b2fe78", "00000000000000000000000000000000"},
		{"40000000000000000000000000000000", "00000000000000000000000000000001", "e1000000000000000000000000000000"},
		{"40000000000000000000000000000000", "00000000000000010000000000000000", "00000000000000008000000000000000"},
		{"00000000000000000000000000000001", "00000000000000000000000000000001", "e6080000000000000000000000000003"},
	} {
		for _, pair := range [][2]string{{x[0], x[1]}, {x[1], x[0]}} {
			if s := told(product(t, untold(t, pair[0]), untold(t, pair[1]))); s != x[2] {
				t.Errorf("%s and %s: %s, not %s", pair[0], pair[1], s, x[2])
			}
		}
	}
}

// P4.1: all products of two powers of x, which make up all others, and such others.
func TestProductsByTheWords(t *testing.T) {
	for i := range 128 {
		for j := range 128 {
			if s := product(t, power(i), power(j)); s != slowProduct(power(i), power(j)) {
				t.Fatalf("x^%d and x^%d: %x", i, j, s)
			}
		}
	}
	draw := mixer(11)
	for range 1000 {
		a, b := draw(16), draw(16)
		if s := product(t, a, b); s != slowProduct(a, b) {
			t.Fatalf("%x and %x: %x", a, b, s)
		}
	}
	ones := strings.Repeat("\xff", 16)
	if s := product(t, ones, ones); s != slowProduct(ones, ones) {
		t.Errorf("ones and ones: %x", s)
	}
}

// P4.1: products of sums are sums of products, in whatever order they are taken.
func TestProductsOfSums(t *testing.T) {
	draw := mixer(12)
	for range 200 {
		a, b, c := draw(16), draw(16), draw(16)
		if product(t, a, b) != product(t, b, a) {
			t.Fatalf("%x and %x may not change places", a, b)
		}
		if product(t, product(t, a, b), c) != product(t, a, product(t, b, c)) {
			t.Fatalf("%x, %x, %x: the order counts", a, b, c)
		}
		if product(t, plus(a, b), c) != plus(product(t, a, c), product(t, b, c)) {
			t.Fatalf("(%x + %x) and %x: not the sum", a, b, c)
		}
	}
}

// P4.1: all lengths but one.
func TestProductsOfNoBlocks(t *testing.T) {
	draw := mixer(13)
	for n := range 40 {
		for m := range 40 {
			s, e := gcm.Product(draw(n), draw(m))
			if n == 16 && m == 16 {
				if e != api.OK {
					t.Error(e)
				}
			} else if e != api.ErrForm || s != "" {
				t.Errorf("%d and %d bytes: %d, %x", n, m, e, s)
			}
		}
	}
	if s, e := gcm.Product(noughts(16), strings.Repeat("α", 16)); e != api.ErrForm || s != "" {
		t.Errorf("16 runes: %d, %x", e, s)
	}
}
