package value_test

import (
	"math"
	"strconv"
	"strings"
	"testing"

	"keyloft/api"
	"keyloft/value"
)

// alike: are two values of the same types, and the same? An empty list may be nil.
func alike(a, b any) bool {
	l, isList := a.([]any)
	if !isList {
		_, other := b.([]any)
		return !other && a == b
	}
	m, isList := b.([]any)
	if !isList || len(l) != len(m) {
		return false
	}
	for i := range l {
		if !alike(l[i], m[i]) {
			return false
		}
	}
	return true
}

// parses: Parse answers just this value.
func parses(t *testing.T, s string, want any) {
	t.Helper()
	if v, e := value.Parse(s); e != api.OK || !alike(v, want) {
		t.Errorf("%.200q: %d, %.200v, not %.200v", s, e, v, want)
	}
}

// parsesNot: Parse answers ErrForm, and no value.
func parsesNot(t *testing.T, what, s string) {
	t.Helper()
	if v, e := value.Parse(s); e != api.ErrForm || v != nil {
		t.Errorf("%s, %.80q: %d, %.80v", what, s, e, v)
	}
}

// P7.1: values, told from their bytes.
func TestParse(t *testing.T) {
	parses(t, "l\x02i\x00\x00\x00\x00\x00\x00\x00\x01s\x00\x01a", list(1, "a"))
	parses(t, "i\x00\x00\x00\x00\x00\x00\x00\x00", 0)
	parses(t, "i\x01\x02\x03\x04\x05\x06\x07\x08", 0x0102030405060708)
	parses(t, "i\xff\xff\xff\xff\xff\xff\xff\xff", -1)
	parses(t, "i\x7f\xff\xff\xff\xff\xff\xff\xff", math.MaxInt)
	parses(t, "i\x80\x00\x00\x00\x00\x00\x00\x00", math.MinInt)
	parses(t, "s\x00\x00", "")
	parses(t, "s\x00\x02\x00\xff", "\x00\xff")
	parses(t, "s\x01\x00"+strings.Repeat("t", 256), strings.Repeat("t", 256))
	parses(t, "s\xff\xff"+strings.Repeat("t", 65535), strings.Repeat("t", 65535))
	parses(t, "y", true)
	parses(t, "n", false)
	parses(t, "l\x00", list())
	parses(t, "l\x01l\x00", list(list()))
	parses(t, "l\x03nl\x02yl\x00s\x00\x01n", list(false, list(true, list()), "n"))
	parses(t, "l\xff"+strings.Repeat("n", 255), many(255, false))
}

// P7.1: other bytes are no value's.
func TestParseOfOtherForms(t *testing.T) {
	for what, s := range map[string]string{
		"nothing":                           "",
		"a nought":                          "\x00",
		"a capital kind":                    "I\x00\x00\x00\x00\x00\x00\x00\x01",
		"another kind":                      "t",
		"a number without bytes":            "i",
		"a number of 4 bytes":               "i\x00\x00\x00\x01",
		"a number of 7 bytes":               "i\x00\x00\x00\x00\x00\x00\x01",
		"a number of 9 bytes":               "i\x00\x00\x00\x00\x00\x00\x00\x00\x01",
		"a number as digits":                "i1",
		"a text without a length":           "s",
		"a text with half a length":         "s\x00",
		"a text of one byte of length":      "s\x01a",
		"a text that is short":              "s\x00\x02a",
		"a text without its only byte":      "s\x00\x01",
		"a text with a byte more":           "s\x00\x01ab",
		"an empty text with a byte more":    "s\x00\x00a",
		"a length with the lower one ahead": "s\x01\x00a",
		"a longest text, short by one":      "s\xff\xff" + strings.Repeat("t", 65534),
		"a longest text and a byte more":    "s\xff\xff" + strings.Repeat("t", 65536),
		"a length of three bytes":           "s\x01\x00\x00" + strings.Repeat("t", 65536),
		"a yes and a no":                    "yn",
		"a yes and a nought":                "y\x00",
		"a yes as a byte":                   "\x01",
		"a list without a length":           "l",
		"a list without its only value":     "l\x01",
		"a list that is short":              "l\x02y",
		"a list with a value more":          "l\x01yn",
		"an empty list with a value more":   "l\x00y",
		"a length of two bytes":             "l\x00\x01y",
		"a list of 256":                     "l\x00" + strings.Repeat("y", 256),
		"a list of 255, and a value more":   "l\xff" + strings.Repeat("y", 256),
		"a list of 255, short by one":       "l\xff" + strings.Repeat("y", 254),
		"a list with another kind in it":    "l\x02yz",
		"a list with a number cut short":    "l\x01i\x00\x00\x00\x00\x00\x00\x00",
		"a list in a list that is short":    "l\x02yl\x02y",
		"two values":                        "s\x00\x01as\x00\x01b",
		"a space ahead":                     " y",
		"a space behind":                    "y ",
		"the bytes 255":                     strings.Repeat("\xff", 300),
		"noughts":                           strings.Repeat("\x00", 1<<20),
		"lists of lists without an end":     strings.Repeat("l\xff", 1<<18),
		"lists of one without an end":       strings.Repeat("l\x01", 1<<18),
		"l alone":                           strings.Repeat("l", 1<<18),
	} {
		parsesNot(t, what, s)
	}
}

// P7.1: the kinds are five bytes alone.
func TestKinds(t *testing.T) {
	for b := range 256 {
		kind := string([]byte{byte(b)})
		if !strings.Contains("isynl", kind) {
			for n := range 20 {
				parsesNot(t, "kind "+strconv.Itoa(b), kind+strings.Repeat("\x00", n))
				parsesNot(t, "kind in a list, "+strconv.Itoa(b), "l\x01"+kind+strings.Repeat("\x00", n))
			}
		}
	}
}

// P7.1: bytes of lists that stand too deep are no value's.
func TestParseOfDepths(t *testing.T) {
	for n := range 9 {
		parses(t, strings.Repeat("l\x01", n)+"y", nested(n, true))
		if n > 0 {
			parses(t, strings.Repeat("l\x01", n-1)+"l\x00", nested(n-1, list()))
		}
	}
	for _, n := range []int{9, 10, 17, 255, 256, 257, 1 << 16, 1 << 20} {
		what := strconv.Itoa(n) + " lists within one another"
		parsesNot(t, what, strings.Repeat("l\x01", n)+"y")
		parsesNot(t, what+", the last one empty", strings.Repeat("l\x01", n-1)+"l\x00")
		parsesNot(t, what+", behind others", "l\x03yl\x00"+strings.Repeat("l\x01", n-1)+"y")
	}
	deep := strings.Repeat("l\x01", 7) + "y"
	parses(t, "l\x03"+strings.Repeat(deep, 3), list(nested(7, true), nested(7, true), nested(7, true)))
	parsesNot(t, "the last one too deep", "l\x03"+deep+deep+"l\x01"+deep)
}

// allTexts: of n bytes out of the letters.
func allTexts(letters string, n int) []string {
	out := []string{""}
	for range n {
		var longer []string
		for _, s := range out {
			for i := range len(letters) {
				longer = append(longer, s+letters[i:i+1])
			}
		}
		out = longer
	}
	return out
}

// shortRows: all rows of so many values, each at least a byte, that have n bytes in all.
func shortRows(letters string, count, n int) [][]any {
	if count == 0 && n == 0 {
		return [][]any{nil}
	}
	if count == 0 || n <= 0 {
		return nil
	}
	var out [][]any
	for first := 1; first <= n; first++ {
		for _, v := range shortValues(letters, first) {
			for _, rest := range shortRows(letters, count-1, n-first) {
				out = append(out, append(list(v), rest...))
			}
		}
	}
	return out
}

// shortValues: all values without numbers whose bytes are n, with texts out of the letters.
func shortValues(letters string, n int) []any {
	var out []any
	if n == 1 {
		return list(true, false)
	}
	if n >= 3 {
		for _, s := range allTexts(letters, n-3) {
			out = append(out, s)
		}
	}
	for count := 0; count <= n-2; count++ {
		for _, row := range shortRows(letters, count, n-2) {
			out = append(out, any(row))
		}
	}
	return out
}

// P7.1, P7.3: all texts of up to 6 bytes out of ten: those that are bytes of a value are parsed to it, the others aren't.
func TestParseOfAllShortTexts(t *testing.T) {
	const letters, most = "\x00\x01\x02\x03\x04synli", 6
	for n := range most + 1 {
		known := map[string]any{}
		for _, v := range shortValues(letters, n) {
			known[byTheWords(v)] = v
		}
		for _, s := range allTexts(letters, n) {
			if want, is := known[s]; is {
				parses(t, s, want)
				prints(t, want, s)
				delete(known, s)
			} else {
				parsesNot(t, "no value's", s)
			}
		}
		if len(known) > 0 {
			t.Errorf("of %d bytes, values weren't met: %v", n, known)
		}
	}
}

// P7.3: what was printed is parsed, and printed again it is the same.
func TestPrintedIsParsed(t *testing.T) {
	draw := mixer(2)
	values := list(0, 1, -1, math.MaxInt, math.MinInt, "", strings.Repeat("t", 65535), many(255, many(3, "a")), nested(8, "x"), nested(7, list()))
	for range 5000 {
		values = append(values, drawnValue(draw, 8))
	}
	for _, v := range values {
		s, e := value.Print(v)
		if e != api.OK {
			t.Fatalf("%.80v: %d", v, e)
		}
		parses(t, s, v)
		back, _ := value.Parse(s)
		prints(t, back, s)
	}
}

// P7.3: whole numbers at all edges of bits, printed and parsed.
func TestNumbers(t *testing.T) {
	for bit := range 64 {
		for more := -2; more <= 2; more++ {
			n := 1<<bit + more
			prints(t, n, byTheWords(n))
			parses(t, byTheWords(n), n)
			parses(t, byTheWords(list(-n, n)), list(-n, n))
		}
	}
}

// P7.1: a piece of a value's bytes is no value's, nor are these with something behind them.
func TestParseOfPieces(t *testing.T) {
	draw := mixer(3)
	for range 300 {
		s := byTheWords(drawnValue(draw, 8))
		for at := range len(s) {
			parsesNot(t, "cut at "+strconv.Itoa(at), s[:at])
		}
		for _, more := range []string{"\x00", "y", "l\x00", "s", s} {
			parsesNot(t, "with more behind it", s+more)
		}
	}
}

// P7.1, P7.3: any bytes are one value's, or none's: with a bit turned, too.
func TestParseOfTurnedBits(t *testing.T) {
	draw := mixer(4)
	for range 300 {
		v := drawnValue(draw, 8)
		s := byTheWords(v)
		for bit := range 8 * len(s) {
			b := []byte(s)
			b[bit/8] ^= 1 << (bit % 8)
			other, e := value.Parse(string(b))
			if e == api.OK && (byTheWords(other) != string(b) || alike(v, other)) || e != api.OK && (e != api.ErrForm || other != nil) {
				t.Fatalf("%q, bit %d: %d, %v", s, bit, e, other)
			}
		}
	}
}

// P7.1: bytes without a pattern, of the kinds more often than of others: one value's, or none's.
func TestParseOfDrawnBytes(t *testing.T) {
	draw := mixer(5)
	const often = "\x00\x01\x02synlyn"
	met := 0
	for range 200000 {
		b := make([]byte, draw(14))
		for i := range b {
			b[i] = often[draw(len(often))]
			if draw(12) == 0 {
				b[i] = byte(draw(256))
			}
		}
		v, e := value.Parse(string(b))
		if e == api.OK {
			met++
			if byTheWords(v) != string(b) {
				t.Fatalf("%q: %v", b, v)
			}
		} else if e != api.ErrForm || v != nil {
			t.Fatalf("%q: %d, %v", b, e, v)
		}
	}
	if met < 1000 {
		t.Errorf("only %d values were met", met)
	}
}

// P7.1: answers are new memory.
func TestParsedApart(t *testing.T) {
	s := "l\x02l\x01yl\x01y"
	one, _ := value.Parse(s)
	l := one.([]any)
	l[0].([]any)[0] = "changed"
	_ = append(l[0].([]any), "behind")
	if !alike(l[1], list(true)) {
		t.Error("two lists of one answer share memory:", l)
	}
	l[1] = 3
	parses(t, s, list(list(true), list(true)))
}
