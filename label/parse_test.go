package label_test

import (
	"slices"
	"strconv"
	"strings"
	"testing"

	"keyloft/api"
	"keyloft/label"
)

// parses: Parse answers just these pairs, in this order.
func parses(t *testing.T, s string, want []api.Pair) {
	t.Helper()
	if l, e := label.Parse(s); e != api.OK || !slices.Equal(l, want) {
		t.Errorf("%q: %d, %q, not %q", s, e, l, want)
	}
}

// parsesNot: Parse answers ErrForm, and no pairs.
func parsesNot(t *testing.T, what, s string) {
	t.Helper()
	if l, e := label.Parse(s); e != api.ErrForm || len(l) != 0 {
		t.Errorf("%s, %.80q: %d, %q", what, s, e, l)
	}
}

// P6.1: texts, with their pairs by rising keys.
func TestParse(t *testing.T) {
	k32, v64 := strings.Repeat("k", 32), strings.Repeat("v", 64)
	parses(t, "", nil)
	parses(t, "\x01a\x011", pairs("a", "1"))
	parses(t, "\x01a\x00", pairs("a", ""))
	parses(t, "\x01\x00\x01\x00", pairs("\x00", "\x00"))
	parses(t, "\x01a\x011\x02ab\x012\x01b\x013", pairs("a", "1", "ab", "2", "b", "3"))
	parses(t, "\x02\x01a\x02\x01b", pairs("\x01a", "\x01b"))
	parses(t, "\x20"+k32+"\x40"+v64, pairs(k32, v64))
	parses(t, "\x01\x7f\x00\x01\x80\x00", pairs("\x7f", "", "\x80", ""))
}

// P6.1, P6.3: what Text tells is parsed to the same pairs by rising keys, however they stood.
func TestParseOfTexts(t *testing.T) {
	draw := mixer(2)
	for n := range 9 {
		parses(t, byTheWords(many(n)), many(n))
	}
	for _, order := range orders(pairs("a", "1", "b", "2", "ab", "")) {
		text, _ := label.Text(order)
		parses(t, text, pairs("a", "1", "ab", "", "b", "2"))
	}
	for range 2000 {
		context := drawnContext(draw)
		text, _ := label.Text(context)
		parses(t, text, risen(context))
	}
}

// P6.1: each part's form counts.
func TestParseOfOtherForms(t *testing.T) {
	k33, v65 := strings.Repeat("k", 33), strings.Repeat("v", 65)
	for what, s := range map[string]string{
		"an empty key":                  "\x00\x011",
		"an empty key and value":        "\x00\x00",
		"an empty key behind another":   "\x01a\x011\x00\x00",
		"a length alone":                "\x01",
		"a nought alone":                "\x00",
		"a key without a value":         "\x01a",
		"a second key without a value":  "\x01a\x011\x01b",
		"a key that is short":           "\x02a",
		"a value that is short":         "\x01a\x021",
		"a value that is missing":       "\x01a\x01",
		"a nought behind it":            "\x01a\x011\x00",
		"a byte behind it":              "\x01a\x0112",
		"a key of 33":                   "\x21" + k33 + "\x00",
		"a key of 33, cut to 32":        "\x21" + k33[:32],
		"a value of 65":                 "\x01a\x41" + v65,
		"a value of 65, cut to 64":      "\x01a\x41" + v65[:64],
		"keys that fall":                "\x01b\x012\x01a\x011",
		"keys that rise by length only": "\x01b\x00\x02aa\x00",
		"keys that rise as signed ones": "\x01\x80\x00\x01\x7f\x00",
		"a longer key ahead":            "\x02ab\x00\x01a\x00",
		"a key twice":                   "\x01a\x011\x01a\x012",
		"a pair twice":                  "\x01a\x011\x01a\x011",
		"values ahead of lengths":       "a\x011\x01",
		"no lengths":                    "a1",
		"lengths of two bytes":          "\x00\x01a\x00\x011",
		"a count ahead":                 "\x01\x01a\x011",
		"the bytes 255":                 strings.Repeat("\xff", 300),
		"many noughts":                  strings.Repeat("\x00", 1<<20),
		"many pairs":                    strings.Repeat("\x01a\x00", 1<<18),
		"a text":                        "k=v",
	} {
		parsesNot(t, what, s)
	}
}

// P6.1: more than 8 pairs are no context's, however right each one is.
func TestParseOfManyPairs(t *testing.T) {
	for n := 9; n < 40; n++ {
		parsesNot(t, strconv.Itoa(n)+" pairs", byTheWords(many(n)))
	}
	eight := byTheWords(many(8))
	for _, more := range []string{"\x00", "\x01", "\x01z", "\x01z\x00", "\x00\x00", "z"} {
		parsesNot(t, "something behind eight pairs", eight+more)
	}
	for what, context := range noContexts() {
		parsesNot(t, what, byTheWords(context))
	}
}

// P6.1: a text's pieces are none, but for those that end where a pair does.
func TestParseOfPieces(t *testing.T) {
	whole := pairs("a", "1", "ab", "", "b", "two", strings.Repeat("k", 32), strings.Repeat("v", 64))
	text, ends := byTheWords(whole), map[int]int{}
	for n := range whole {
		ends[len(byTheWords(whole[:n]))] = n
	}
	for at := range len(text) {
		if n, ends := ends[at]; ends {
			parses(t, text[:at], whole[:n])
		} else {
			parsesNot(t, "cut at "+strconv.Itoa(at), text[:at])
		}
	}
	parses(t, text, whole)
}

// P6.1: all texts of up to 7 bytes out of five: those of contexts are parsed to them, the others aren't.
func TestParseOfAllShortTexts(t *testing.T) {
	const letters, most = "\x00\x01\x02\x03a", 7
	known := map[string][]api.Pair{"": nil}
	for _, p := range shortPairs(letters, most) {
		known[byTheWords([]api.Pair{p})] = []api.Pair{p}
		for _, q := range shortPairs(letters, most-len(byTheWords([]api.Pair{p}))) {
			if p.Key < q.Key {
				known[byTheWords([]api.Pair{p, q})] = []api.Pair{p, q}
			}
		}
	}
	for n := range most + 1 {
		for _, s := range allTexts(letters, n) {
			if want, is := known[s]; is {
				parses(t, s, want)
			} else {
				parsesNot(t, "no context's", s)
			}
		}
	}
}

// allTexts: of n bytes out of the letters.
func allTexts(letters string, n int) []string {
	out := []string{""}
	for range n {
		var longer []string
		for _, s := range out {
			for i := range len(letters) {
				longer = append(longer, s+letters[i:i+1])
			}
		}
		out = longer
	}
	return out
}

// shortPairs: all right ones whose text has at most so many bytes.
func shortPairs(letters string, most int) []api.Pair {
	var out []api.Pair
	for k := 1; k+2 <= most; k++ {
		for v := 0; k+v+2 <= most; v++ {
			for _, key := range allTexts(letters, k) {
				for _, value := range allTexts(letters, v) {
					out = append(out, api.Pair{Key: key, Value: value})
				}
			}
		}
	}
	return out
}

// P6.1, P6.3: any bytes are one context's text, or none's: with a bit turned, too.
func TestParseOfTurnedBits(t *testing.T) {
	draw := mixer(3)
	for range 60 {
		context := risen(drawnContext(draw))
		text := byTheWords(context)
		for bit := range 8 * len(text) {
			b := []byte(text)
			b[bit/8] ^= 1 << (bit % 8)
			l, e := label.Parse(string(b))
			if e == api.OK && (byTheWords(l) != string(b) || slices.Equal(l, context)) || e != api.OK && (e != api.ErrForm || len(l) != 0) {
				t.Fatalf("%q, bit %d: %d, %q", text, bit, e, l)
			}
		}
	}
}

// P6.1: answers are new memory.
func TestParsedApart(t *testing.T) {
	s := "\x01a\x011\x01b\x012"
	one, _ := label.Parse(s)
	one[0] = api.Pair{Key: "z", Value: "z"}
	_ = append(one[:1], one[0])
	two, _ := label.Parse(s)
	two[1].Value = "3"
	parses(t, s, pairs("a", "1", "b", "2"))
}
