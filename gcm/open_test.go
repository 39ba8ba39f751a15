package gcm_test

import (
	"encoding/binary"
	"strconv"
	"testing"

	"keyloft/aes"
	"keyloft/api"
	"keyloft/gcm"
)

// words: what is sealed, by the chapter's words, of the cipher and the slow product alone.
func words(t *testing.T, key, nonce, beside, text string) string {
	t.Helper()
	c, e := aes.New(key)
	if e != api.OK {
		t.Fatal(e)
	}
	press := func(block string) string {
		s, _ := c.Press(block)
		return s
	}
	counter := func(j int) string {
		return press(nonce + string(binary.BigEndian.AppendUint32(nil, uint32(j))))
	}
	body := []byte(text)
	for i := range body {
		body[i] ^= counter(2 + i/16)[i%16]
	}
	whole := func(s string) string { return s + noughts((16-len(s)%16)%16) }
	lengths := binary.BigEndian.AppendUint64(nil, 8*uint64(len(beside)))
	lengths = binary.BigEndian.AppendUint64(lengths, 8*uint64(len(text)))
	blocks := whole(beside) + whole(string(body)) + string(lengths)
	h, sum := press(noughts(16)), noughts(16)
	for i := 0; i < len(blocks); i += 16 {
		sum = slowProduct(plus(sum, blocks[i:i+16]), h)
	}
	return string(body) + plus(sum, counter(1))
}

// P4.1, P4.2: all lengths to two blocks and a byte, of text and beside, against the chapter's words, and opened.
func TestSealedByTheWords(t *testing.T) {
	draw := mixer(21)
	for n := range 34 {
		for m := range 34 {
			key, nonce, beside, text := draw(32), draw(12), draw(m), draw(n)
			sealed := seal(t, key, nonce, beside, text)
			if sealed != words(t, key, nonce, beside, text) {
				t.Fatalf("%d bytes with %d beside: %x", n, m, sealed)
			}
			opens(t, key, nonce, beside, sealed, text)
		}
	}
}

// P4.2: each bit counts, of what is sealed, of what is beside, of the key and of the nonce.
func TestTurnedBits(t *testing.T) {
	draw := mixer(22)
	for _, x := range [][2]int{{0, 0}, {0, 1}, {1, 0}, {15, 17}, {16, 16}, {17, 15}, {33, 20}, {100, 100}} {
		key, nonce, beside, text := draw(32), draw(12), draw(x[1]), draw(x[0])
		sealed := seal(t, key, nonce, beside, text)
		for bit := range 8 * len(sealed) {
			refuses(t, "sealed bit "+strconv.Itoa(bit), key, nonce, beside, flip(sealed, bit), api.ErrCorrupt)
		}
		for bit := range 8 * len(beside) {
			refuses(t, "beside bit "+strconv.Itoa(bit), key, nonce, flip(beside, bit), sealed, api.ErrCorrupt)
		}
		for bit := range 8 * len(key) {
			refuses(t, "key bit "+strconv.Itoa(bit), flip(key, bit), nonce, beside, sealed, api.ErrCorrupt)
		}
		for bit := range 8 * len(nonce) {
			refuses(t, "nonce bit "+strconv.Itoa(bit), key, flip(nonce, bit), beside, sealed, api.ErrCorrupt)
		}
		opens(t, key, nonce, beside, sealed, text)
	}
}

// P4.2: a bit counts in long texts, too, in the first, a middle and the last block.
func TestTurnedBitsOfLongTexts(t *testing.T) {
	draw := mixer(23)
	key, nonce, beside, text := draw(32), draw(12), draw(65536), draw(65536)
	sealed := seal(t, key, nonce, beside, text)
	for _, bit := range []int{0, 127, 128, 8*4064 + 3, 8*32768 + 1, 8*65535 + 7} {
		refuses(t, "sealed bit "+strconv.Itoa(bit), key, nonce, beside, flip(sealed, bit), api.ErrCorrupt)
		refuses(t, "beside bit "+strconv.Itoa(bit), key, nonce, flip(beside, bit), sealed, api.ErrCorrupt)
	}
	refuses(t, "the tag's last bit", key, nonce, beside, flip(sealed, 8*65552-1), api.ErrCorrupt)
	opens(t, key, nonce, beside, sealed, text)
}

// P4.1: bytes that go, come, or change places; where the body ends and what is beside it begins counts, too, and so do the noughts that fill up.
func TestMovedBytes(t *testing.T) {
	draw := mixer(24)
	key, nonce, beside, text := draw(32), draw(12), draw(16), draw(48)
	sealed := seal(t, key, nonce, beside, text)
	for _, x := range []struct{ what, beside, sealed string }{
		{"nothing beside", "", sealed},
		{"a nought more beside", beside + "\x00", sealed},
		{"a byte less beside", beside[:15], sealed},
		{"twice beside", beside + beside, sealed},
		{"a byte less", beside, sealed[:63]},
		{"the first byte less", beside, sealed[1:]},
		{"a byte more", beside, sealed + "\x00"},
		{"a byte more in the body", beside, sealed[:48] + "\x00" + sealed[48:]},
		{"a block less in the body", beside, sealed[:32] + sealed[48:]},
		{"two blocks change places", beside, sealed[16:32] + sealed[:16] + sealed[32:]},
		{"the tag alone", beside, sealed[48:]},
		{"the tag first", beside, sealed[48:] + sealed[:48]},
		{"a block of the body beside", beside + sealed[:16], sealed[16:]},
		{"what is beside in the body", "", beside + sealed},
		{"they change places", sealed[:48], beside + sealed[48:]},
		{"the text, not the body", beside, text + sealed[48:]},
		{"twice", beside, sealed + sealed},
	} {
		refuses(t, x.what, key, nonce, x.beside, x.sealed, api.ErrCorrupt)
	}
	for n := range 16 {
		short := seal(t, key, nonce, beside[:n], text[:n])
		refuses(t, "a nought more beside", key, nonce, beside[:n]+"\x00", short, api.ErrCorrupt)
		refuses(t, "a nought more in the body", key, nonce, beside[:n], short[:n]+"\x00"+short[n:], api.ErrCorrupt)
	}
}

// P4.1: a text is sealed to another body with another nonce, and under another key; the body hangs on nothing beside.
func TestBodies(t *testing.T) {
	draw := mixer(25)
	key, nonce, text := draw(32), draw(12), noughts(64)
	sealed := seal(t, key, nonce, "", text)
	with := seal(t, key, nonce, "beside", text)
	if sealed[:64] != with[:64] || sealed[64:] == with[64:] {
		t.Error("what is beside plays its part in the tag alone")
	}
	seen := map[string]bool{}
	for at := 0; at < 64; at += 16 {
		seen[sealed[at:at+16]] = true
	}
	for _, bit := range []int{0, 95} {
		seen[seal(t, key, flip(nonce, bit), "", text)[:16]] = true
	}
	for _, bit := range []int{0, 255} {
		seen[seal(t, flip(key, bit), nonce, "", text)[:16]] = true
	}
	if len(seen) != 8 {
		t.Errorf("%d bodies of 8 blocks of noughts", len(seen))
	}
	if s, e := gcm.Seal(key, nonce, "", text[:20]); e != api.OK || s[:20] != sealed[:20] {
		t.Error("a shorter text's body is no longer one's beginning")
	}
}
