package label_test

import (
	"strconv"
	"strings"
	"testing"

	"keyloft/label"
)

// all that a name may have, the greek letters told one by one.
const (
	latin  = "abcdefghijklmnopqrstuvwxyz"
	digits = "0123456789"
	greek  = "αβγδεζηθικλμνξοπρςστυφχψω"
	firsts = latin + digits + greek
)

// isName: Right says so, and Runes counts so many.
func isName(t *testing.T, name string, runes int) {
	t.Helper()
	if !label.Right(name) || label.Runes(name) != runes {
		t.Errorf("%q: %v, %d runes, not %d", name, label.Right(name), label.Runes(name), runes)
	}
}

// isNoName: Right says so, and Runes counts none.
func isNoName(t *testing.T, name string) {
	t.Helper()
	if label.Right(name) || label.Runes(name) != 0 {
		t.Errorf("%.80q (%d bytes): %v, %d runes", name, len(name), label.Right(name), label.Runes(name))
	}
}

// P6.1: names, with how many runes they have.
func TestNames(t *testing.T) {
	for name, runes := range map[string]int{
		"key-1": 5, "α2": 2, "k1": 2, "a": 1, "z": 1, "0": 1, "9": 1, "α": 1, "ω": 1, "ς": 1,
		"007": 3, "1-": 2, "a-": 2, "a--b": 4, "α-ω": 3, "aα0-": 4, "ann": 3, "key-ring-of-3": 13,
	} {
		isName(t, name, runes)
	}
}

// P6.1: a name has 1 to 32 runes, however many bytes they are.
func TestLengthsOfNames(t *testing.T) {
	for _, piece := range []string{"a", "0", "ω", "aω", "ωa", "α0-"} {
		whole := []rune(strings.Repeat(piece, 40))
		for n := 1; n <= 32; n++ {
			isName(t, string(whole[:n]), n)
		}
		for n := 33; n <= 40; n++ {
			isNoName(t, string(whole[:n]))
		}
	}
	isName(t, "a"+strings.Repeat("-", 31), 32)
	isNoName(t, "a"+strings.Repeat("-", 32))
	isNoName(t, "")
	for _, n := range []int{64, 255, 256, 256 + 32, 1 << 16, 1<<20 + 1} {
		isNoName(t, strings.Repeat("a", n))
		isNoName(t, strings.Repeat("ω", n))
	}
}

// P6.1: each rune there is, alone, behind another one, and as the last one of 32.
func TestRunesOfNames(t *testing.T) {
	ahead := strings.Repeat("α", 31)
	for r := rune(0); r <= 0x10ffff+2; r++ {
		one := string(r)
		if strings.ContainsRune(firsts, r) {
			isName(t, one, 1)
		} else {
			isNoName(t, one)
		}
		if strings.ContainsRune(firsts+"-", r) {
			isName(t, "a"+one, 2)
			isName(t, ahead+one, 32)
		} else {
			isNoName(t, "a"+one)
			isNoName(t, one+"a")
			isNoName(t, ahead+one)
		}
	}
}

// P6.1: the Greek letters are those from U+03B1 to U+03C9 alone.
func TestGreekEdges(t *testing.T) {
	for r := rune(0x3b1); r <= 0x3c9; r++ {
		isName(t, string(r), 1)
	}
	for _, r := range []rune{0x391, 0x3a9, 0x3ac, 0x3ad, 0x3ae, 0x3af, 0x3b0, 0x3ca, 0x3cb, 0x3cc, 0x3ce, 0x3d1, 0x430, 0x1f00, 0x1d6fc} {
		isNoName(t, string(r))
		isNoName(t, "k"+string(r))
	}
}

// P6.1: the first rune is no -, the others may be.
func TestFirstRune(t *testing.T) {
	for _, name := range []string{"-", "--", "-a", "-0", "-α", "-key", "-a-", "-" + strings.Repeat("a", 31)} {
		isNoName(t, name)
	}
	for _, r := range firsts {
		isName(t, string(r)+"-", 2)
		isName(t, string(r)+"-"+string(r), 3)
		isNoName(t, "-"+string(r))
	}
}

// P6.1: texts that look like names, or are none wherever the wrong rune stands.
func TestNoNames(t *testing.T) {
	for _, name := range []string{"Key", "KEY", "keY", "a b", " a", "a ", "a\n", "\x00", "a\x00", "\x00a", "a_b", "a.b", "a/b", "k/1", "a+b", "é", "ä", "ß", "ı", "ª", "٣", "²", "ａ", "１", "𝛼", "‐", "–", "−", "­a", "a\u0301", "\ufeffa"} {
		isNoName(t, name)
	}
	right := strings.Repeat("aβ7-", 8)
	isName(t, right, 32)
	for at := range 32 {
		runes := []rune(right)
		for _, wrong := range []rune{'A', '_', ' ', 0, 0x3b0, 0x3ca, 0xfffd} {
			runes[at] = wrong
			isNoName(t, string(runes))
		}
	}
}

// P6.1: bytes that are no UTF-8, as whole letters' pieces, or as letters told with more bytes than they need, are in no name.
func TestNoUtf8(t *testing.T) {
	for b := range 256 {
		one := string([]byte{byte(b)})
		if !strings.Contains(latin+digits, one) {
			isNoName(t, one)
			isNoName(t, one+"a")
		}
		if !strings.Contains(latin+digits+"-", one) {
			isNoName(t, "a"+one)
			isNoName(t, "a"+one+"a")
			isNoName(t, "α"+one)
		}
	}
	for _, s := range []string{"\xce", "\xb1", "a\xce", "α\xce", "\xce\xce\xb1", "\xb1\xce", "\xc1\xa1", "\xe0\x81\xa1", "\xe0\x8e\xb1", "\xf0\x80\x8e\xb1", "\xed\xa0\x80", "\xf4\x90\x80\x80", "\xf8\x88\x80\x80\x80", "\xfe", "\xff\xff"} {
		isNoName(t, s)
		isNoName(t, "a"+s)
		isNoName(t, s+"a")
	}
}

// P6.1: what is told of a name hangs on it alone.
func TestNamesAgain(t *testing.T) {
	for i := range 3 {
		isName(t, "key-"+strconv.Itoa(i), 5)
		isNoName(t, "-"+strconv.Itoa(i))
		isName(t, "key-1", 5)
	}
}
