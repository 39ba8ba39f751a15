package mac_test

import (
	"strings"
	"testing"

	"keyloft/mac"
)

// flip: the text with one bit turned round.
func flip(s string, bit int) string {
	b := []byte(s)
	b[bit/8] ^= 1 << (bit % 8)
	return string(b)
}

// P3.1: no other tag than the whole one is the tag.
func TestCheckOtherTags(t *testing.T) {
	tag := mac.Tag("key", "te", "xt")
	if !mac.Check("key", tag, "te", "xt") || !mac.Check("key", string([]byte(tag)), "text") {
		t.Error("the tag isn't known")
	}
	for bit := range 8 * len(tag) {
		if mac.Check("key", flip(tag, bit), "text") {
			t.Errorf("bit %d doesn't count", bit)
		}
	}
	for n := range len(tag) {
		if mac.Check("key", tag[:n], "text") || mac.Check("key", tag[n+1:], "text") {
			t.Errorf("a piece of the tag, cut at %d, is taken", n)
		}
	}
	for _, other := range []string{"", tag + "\x00", "\x00" + tag, tag + tag, told(tag), strings.Repeat("\x00", 32), "text", "key"} {
		if mac.Check("key", other, "text") {
			t.Errorf("%q is taken", other)
		}
	}
}

// P3.1: the tag isn't that of other bytes, nor under another key, at whichever byte they differ.
func TestCheckOtherTextsAndKeys(t *testing.T) {
	draw := mixer(4)
	for _, n := range []int{1, 32, 64, 65, 130} {
		key, text := draw(n), draw(n)
		tag := mac.Tag(key, text)
		for i := range n {
			if mac.Check(key, tag, flip(text, 8*i+i%8)) {
				t.Errorf("of %d bytes of the text, that at %d doesn't count", n, i)
			}
			if mac.Check(flip(key, 8*i+i%8), tag, text) {
				t.Errorf("of %d bytes of the key, that at %d doesn't count", n, i)
			}
		}
		if mac.Check(key, tag) || mac.Check(key, tag, "") || mac.Check(key, tag, text, "\x00") || mac.Check(key, tag, text, text) || mac.Check("", tag, text) {
			t.Errorf("the tag of %d bytes is that of others, too", n)
		}
	}
	if tag := mac.Tag("key", "ab", "c"); mac.Check("key", tag, "c", "ab") {
		t.Error("the parts' order doesn't count")
	}
	if mac.Check("text", mac.Tag("key", "text"), "key") {
		t.Error("key and text may change places")
	}
}
