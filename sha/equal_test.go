package sha_test

import (
	"strings"
	"testing"

	"keyloft/sha"
)

func equal(t *testing.T, a, b string, want bool) {
	t.Helper()
	if sha.Equal(a, b) != want || sha.Equal(b, a) != want {
		t.Fatalf("Equal(%.80q, %.80q) of %d and %d bytes isn't %v both ways", a, b, len(a), len(b), want)
	}
}

// P2.1: the same bytes, wherever they lie.
func TestEqual(t *testing.T) {
	draw := mixer(5)
	for n := range 300 {
		s := draw(n)
		equal(t, s, s, true)
		equal(t, s, string([]byte(s)), true)
	}
	equal(t, "α", "\xce\xb1", true)
	equal(t, sha.Of("a", "bc"), sha.Of("abc"), true)
	equal(t, sha.Of("abc"), sha.Of("acb"), false)
}

// P2.1: texts that differ in one bit of one byte, whichever it is.
func TestUnequalByABit(t *testing.T) {
	for _, n := range []int{1, 2, 16, 32, 33, 64, 100} {
		s := mixer(6)(n)
		for i := range 8 * n {
			b := []byte(s)
			b[i/8] ^= 1 << (i % 8)
			equal(t, s, string(b), false)
		}
	}
}

// P2.1: texts that differ in more bytes than one, by what would cancel if the bytes were counted together.
func TestUnequalByMore(t *testing.T) {
	for _, x := range [][2]string{
		{"ab", "ba"}, {"aa", "bb"}, {"ab", "``"}, {"\x00\xff", "\xff\x00"}, {"\x01\x01", "\x00\x02"}, {"\x80\x80", "\x00\x00"}, {"abc", "cab"},
		{"a", "A"}, {"é", "e\u0301"}, {"\xff", "\ufffd"}, {"\xff", "\xfe"}, {"\xff\xff\xff", "\xfe\xfe\xfe"},
	} {
		equal(t, x[0], x[1], false)
	}
}

// P2.1: one text is the other's beginning, or its end, or has bytes 0 in its stead.
func TestUnequalLengths(t *testing.T) {
	s := mixer(7)(600)
	for _, n := range []int{0, 1, 31, 32, 63, 64, 256, 344, 512, 599} {
		equal(t, s, s[:n], false)
		equal(t, s, s[600-n:], false)
	}
	for _, n := range []int{1, 2, 32, 255, 256, 257, 512, 65536} {
		zeros := strings.Repeat("\x00", n)
		equal(t, "", zeros, false)
		equal(t, "a", "a"+zeros, false)
		equal(t, "a", zeros+"a", false)
	}
}
