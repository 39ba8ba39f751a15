package aes_test

import (
	"encoding/hex"
	"strings"
	"testing"

	"keyloft/aes"
	"keyloft/api"
)

func unhex(t *testing.T, s string) string {
	t.Helper()
	b, err := hex.DecodeString(s)
	if err != nil {
		t.Fatal(err)
	}
	return string(b)
}

func cipher(t *testing.T, key string) *aes.Cipher {
	t.Helper()
	c, e := aes.New(key)
	if c == nil || e != api.OK {
		t.Fatalf("New(%x): %v, %d", key, c, e)
	}
	return c
}

func press(t *testing.T, c *aes.Cipher, block string) string {
	t.Helper()
	s, e := c.Press(block)
	if len(s) != 16 || e != api.OK {
		t.Fatalf("Press(%x): %x, %d", block, s, e)
	}
	return s
}

// P1.1: the known answers are those of FIPS 197 (C.3), SP 800-38A (F.1.5) and the validation suite's tables, with keys and blocks at both ends of what they may be.
func TestPressKnownAnswers(t *testing.T) {
	noughts, ones := strings.Repeat("00", 32), strings.Repeat("ff", 32)
	counted := "000102030405060708090a0b0c0d0e0f101112131415161718191a1b1c1d1e1f"
	sample := "603deb1015ca71be2b73aef0857d77811f352c073b6108d72d9810a30914dff4"
	for _, x := range []struct{ key, block, pressed string }{
		{counted, "00112233445566778899aabbccddeeff", "8ea2b7ca516745bfeafc49904b496089"},
		{sample, "6bc1bee22e409f96e93d7e117393172a", "f3eed1bdb5d2a03c064b5a7e3db181f8"},
		{sample, "ae2d8a571e03ac9c9eb76fac45af8e51", "591ccb10d410ed26dc5ba74a31362870"},
		{sample, "30c81c46a35ce411e5fbc1191a0a52ef", "b6ed21b99ca6f4f9f153e7b1beafed1d"},
		{sample, "f69f2445df4f9b17ad2b417be66c3710", "23304b7a39f9f3ff067d8d8f9e24ecc7"},
		{noughts, noughts[:32], "dc95c078a2408989ad48a21492842087"},
		{ones, ones[:32], "d5f93d6d3311cb309f23621b02fbd5e2"},
		{"80" + noughts[:62], noughts[:32], "e35a6dcb19b201a01ebcfa8aa22b5759"},
		{noughts[:62] + "01", noughts[:32], "6b6cfe160a6263631b292f879eeff926"},
		{noughts, "80" + noughts[:30], "ddc6bf790c15760d8d9aeb6f9a75fd4e"},
		{noughts, noughts[:30] + "01", "530f8afbc74536b9a963b4f1c4cb738b"},
		{"c47b0294dbbbee0fec4757f22ffeee3587ca4730c3d33b691df38bab076bc558", noughts[:32], "46f2fb342d6f0ab477476fc501242c5f"},
		{noughts, "014730f80ac625fe84f026c60bfd547d", "5c9d844ed46f9885085e5d6a4f94c7d7"},
	} {
		c := cipher(t, unhex(t, x.key))
		if s := press(t, c, unhex(t, x.block)); s != unhex(t, x.pressed) {
			t.Errorf("%s under %s: %x, not %s", x.block, x.key, s, x.pressed)
		}
	}
}

// P1.1: a thousand keys and blocks, each made of what came ahead, so that a fault in any of them is seen in the last.
func TestPressChain(t *testing.T) {
	key, block := string(make([]byte, 32)), string(make([]byte, 16))
	for range 1000 {
		block = press(t, cipher(t, key), block)
		key = key[16:] + block
	}
	if key != unhex(t, "6f60b130ed3fca84fa6857ebd08d195488159b16613160777c284d2c2f481b53") {
		t.Errorf("%x", key)
	}
}

// P1.1: a key has 32 bytes; those of the shorter AES keys, and a hex text of one, are none.
func TestNewRefuses(t *testing.T) {
	for n := range 200 {
		c, e := aes.New(strings.Repeat("k", n))
		if n == 32 {
			if c == nil || e != api.OK {
				t.Errorf("%d bytes: %v, %d", n, c, e)
			}
		} else if c != nil || e != api.ErrForm {
			t.Errorf("%d bytes: %v, %d", n, c, e)
		}
	}
	if c, e := aes.New(strings.Repeat("α", 32)); c != nil || e != api.ErrForm {
		t.Errorf("32 runes of 2 bytes: %v, %d", c, e)
	}
	cipher(t, strings.Repeat("α", 16))
}

// P1.1, P0.1: a block has 16 bytes; what is refused changes nothing.
func TestPressRefuses(t *testing.T) {
	c := cipher(t, strings.Repeat("k", 32))
	block := strings.Repeat("b", 16)
	first := press(t, c, block)
	for n := range 200 {
		if n == 16 {
			continue
		}
		if s, e := c.Press(strings.Repeat("b", n)); s != "" || e != api.ErrForm {
			t.Errorf("%d bytes: %x, %d", n, s, e)
		}
		if s := press(t, c, block); s != first {
			t.Errorf("behind a refusal: %x, not %x", s, first)
		}
	}
	if s, e := c.Press(strings.Repeat("α", 16)); s != "" || e != api.ErrForm {
		t.Errorf("16 runes of 2 bytes: %x, %d", s, e)
	}
	press(t, c, strings.Repeat("α", 8))
}

// Rule 4: what is pressed hangs on the key and the block, not on blocks ahead, nor on other ciphers.
func TestCiphersAreApart(t *testing.T) {
	keys := []string{strings.Repeat("a", 32), strings.Repeat("b", 32), strings.Repeat("a", 31) + "b", "b" + strings.Repeat("a", 31)}
	var ciphers []*aes.Cipher
	for _, k := range keys {
		ciphers = append(ciphers, cipher(t, k))
	}
	for i := range 50 {
		block := strings.Repeat(string(rune('a'+i%5)), 16)
		seen := map[string]bool{}
		for n, k := range keys {
			s := press(t, ciphers[n], block)
			if s != press(t, cipher(t, k), block) {
				t.Errorf("an old cipher and a new one of %s differ", k)
			}
			seen[s] = true
		}
		if len(seen) != len(keys) {
			t.Errorf("%s: one pressed block of two keys", block)
		}
	}
}
