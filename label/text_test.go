package label_test

import (
	"slices"
	"strings"
	"testing"

	"keyloft/api"
	"keyloft/label"
)

// mixer: numbers without a pattern, the same in each run.
func mixer(seed uint64) func(below int) int {
	return func(below int) int {
		seed = seed*6364136223846793005 + 1442695040888963407
		return int(seed >> 33 % uint64(below))
	}
}

// drawn: so many bytes without a pattern.
func drawn(draw func(int) int, n int) string {
	b := make([]byte, n)
	for i := range b {
		b[i] = byte(draw(256))
	}
	return string(b)
}

// pairs: of keys and values in turn.
func pairs(texts ...string) []api.Pair {
	var l []api.Pair
	for i := 0; i+1 < len(texts); i += 2 {
		l = append(l, api.Pair{Key: texts[i], Value: texts[i+1]})
	}
	return l
}

// many: so many pairs, with keys k0, k1, ..
func many(n int) []api.Pair {
	var l []api.Pair
	for i := range n {
		l = append(l, api.Pair{Key: "k" + string(rune('0'+i)), Value: strings.Repeat("v", i)})
	}
	return l
}

// drawnContext: with any bytes, of a shorter alphabet now and then, so that keys begin alike.
func drawnContext(draw func(int) int) []api.Pair {
	var l []api.Pair
	for n := draw(9); len(l) < n; {
		p := api.Pair{Key: drawn(draw, 1+draw(32)), Value: drawn(draw, draw(65))}
		if draw(2) == 0 {
			p.Key = strings.Repeat("a", draw(16)) + p.Key[:1]
		}
		if !slices.ContainsFunc(l, func(q api.Pair) bool { return q.Key == p.Key }) {
			l = append(l, p)
		}
	}
	return l
}

// risen: the same pairs by rising keys.
func risen(l []api.Pair) []api.Pair {
	l = slices.Clone(l)
	slices.SortFunc(l, func(p, q api.Pair) int { return strings.Compare(p.Key, q.Key) })
	return l
}

// byTheWords: a context's text, told as the chapter says it.
func byTheWords(l []api.Pair) string {
	var b strings.Builder
	for _, p := range risen(l) {
		b.WriteByte(byte(len(p.Key)))
		b.WriteString(p.Key)
		b.WriteByte(byte(len(p.Value)))
		b.WriteString(p.Value)
	}
	return b.String()
}

// orders: all of a list's.
func orders(l []api.Pair) [][]api.Pair {
	if len(l) == 0 {
		return [][]api.Pair{nil}
	}
	var out [][]api.Pair
	for i, p := range l {
		rest := slices.Concat(l[:i], l[i+1:])
		for _, o := range orders(rest) {
			out = append(out, slices.Concat([]api.Pair{p}, o))
		}
	}
	return out
}

// noContexts: lists of pairs that are none, by what is wrong with them.
func noContexts() map[string][]api.Pair {
	return map[string][]api.Pair{
		"an empty key":             pairs("", "1"),
		"an empty pair":            pairs("", ""),
		"an empty key as last":     pairs("a", "1", "", "2"),
		"a key of 33":              pairs(strings.Repeat("k", 33), ""),
		"a key of 33, 17 runes":    pairs(strings.Repeat("α", 16)+"k", ""),
		"a key of 256":             pairs(strings.Repeat("k", 256), ""),
		"a key of 257":             pairs(strings.Repeat("k", 257), ""),
		"a value of 65":            pairs("a", strings.Repeat("v", 65)),
		"a value of 65, 33 runes":  pairs("a", strings.Repeat("α", 32)+"v"),
		"a value of 256":           pairs("a", strings.Repeat("v", 256)),
		"a value of 321":           pairs("a", strings.Repeat("v", 256+65)),
		"a long value as last":     pairs("a", "1", "b", strings.Repeat("v", 65)),
		"a long value as first":    pairs("a", strings.Repeat("v", 65), "b", "2"),
		"a key twice":              pairs("a", "1", "a", "2"),
		"a pair twice":             pairs("a", "1", "a", "1"),
		"a key twice, values none": pairs("a", "", "a", ""),
		"a key twice, apart":       pairs("a", "1", "b", "2", "c", "3", "a", "4"),
		"nine pairs":               many(9),
		"seventeen pairs":          many(17),
		"nine pairs, one twice":    append(many(8), many(1)...),
		"eight pairs, one twice":   append(many(7), many(1)...),
		"eight, one without a key": append(many(7), api.Pair{Value: "v"}),
		"256 and eight pairs":      many(264),
	}
}

// P6.1: contexts' texts, told byte for byte.
func TestKnownTexts(t *testing.T) {
	k32, v64 := strings.Repeat("k", 32), strings.Repeat("v", 64)
	for want, context := range map[string][]api.Pair{
		"":                                nil,
		"\x01a\x011":                      pairs("a", "1"),
		"\x01a\x00":                       pairs("a", ""),
		"\x01\x00\x00":                    pairs("\x00", ""),
		"\x03key\x05value":                pairs("key", "value"),
		"\x01a\x011\x01b\x012":            pairs("b", "2", "a", "1"),
		"\x01a\x011\x02ab\x012\x01b\x013": pairs("b", "3", "ab", "2", "a", "1"),
		"\x02aa\x00\x01b\x00":             pairs("b", "", "aa", ""),
		"\x01a\x00\x02a\x00\x00":          pairs("a\x00", "", "a", ""),
		"\x01\x7f\x012\x01\x80\x011":      pairs("\x80", "1", "\x7f", "2"),
		"\x01Z\x00\x01a\x00\x02\xce\xb1\x00\x01\xff\x00": pairs("\xff", "", "α", "", "a", "", "Z", ""),
		"\x20" + k32 + "\x40" + v64:                      pairs(k32, v64),
		"\x0210\x00\x019\x00":                            pairs("9", "", "10", ""),
	} {
		if text, e := label.Text(context); e != api.OK || text != want {
			t.Errorf("%q: %d, %q, not %q", context, e, text, want)
		}
	}
	if text, e := label.Text([]api.Pair{}); e != api.OK || text != "" {
		t.Errorf("no pairs, but a list: %d, %q", e, text)
	}
}

// P6.1: a context has up to 8 pairs, of a key of 1 to 32 bytes and a value of at most 64, whichever bytes they are.
func TestEdgesOfContexts(t *testing.T) {
	for n := range 9 {
		if text, e := label.Text(many(n)); e != api.OK || text != byTheWords(many(n)) {
			t.Errorf("%d pairs: %d, %q", n, e, text)
		}
	}
	long := strings.Repeat("αz\x00\xff", 100)
	for k := range 300 {
		for _, v := range []int{0, 1, 63, 64, 65, 66, 255, 256, 257} {
			context := pairs(long[:k], long[:v])
			text, e := label.Text(context)
			if right := k >= 1 && k <= 32 && v <= 64; right && (e != api.OK || text != byTheWords(context)) || !right && (e != api.ErrForm || text != "") {
				t.Errorf("a key of %d, a value of %d: %d, %q", k, v, e, text)
			}
		}
	}
	for v := range 300 {
		text, e := label.Text(pairs("key", long[:v]))
		if right := v <= 64; right != (e == api.OK) || !right && (e != api.ErrForm || text != "") {
			t.Errorf("a value of %d: %d, %q", v, e, text)
		}
	}
}

// P6.1: what is no context has no text.
func TestNoContexts(t *testing.T) {
	for what, context := range noContexts() {
		if text, e := label.Text(context); e != api.ErrForm || text != "" {
			t.Errorf("%s: %d, %q", what, e, text)
		}
	}
}

// P6.3: a text hangs on no order.
func TestTextsOfAllOrders(t *testing.T) {
	for _, context := range [][]api.Pair{pairs("a", "1", "b", "2"), pairs("a", "", "aa", "a", "b", "", "\xff", "x"), many(6)} {
		for _, order := range orders(context) {
			if text, e := label.Text(order); e != api.OK || text != byTheWords(context) {
				t.Errorf("%q: %d, %q", order, e, text)
			}
		}
	}
}

// P6.1, P6.3: contexts with bytes without a pattern, whichever way round, against the chapter's words.
func TestDrawnTexts(t *testing.T) {
	draw := mixer(1)
	for range 2000 {
		context := drawnContext(draw)
		text, e := label.Text(context)
		slices.Reverse(context)
		turned, f := label.Text(context)
		if e != api.OK || f != api.OK || text != byTheWords(context) || turned != text {
			t.Fatalf("%q: %d, %q; turned %d, %q", context, e, text, f, turned)
		}
	}
}

// P6.3: two contexts have one text only if they have the same pairs.
func TestTextsDiffer(t *testing.T) {
	seen := map[string][]api.Pair{}
	for _, context := range smallContexts() {
		text, e := label.Text(context)
		if other, has := seen[text]; e != api.OK || has && !slices.Equal(risen(context), risen(other)) {
			t.Errorf("%q and %q: %d, %q", context, other, e, text)
		}
		seen[text] = context
	}
	if len(seen) != 64 {
		t.Errorf("%d texts", len(seen))
	}
}

// P6.1: what is handed in is not changed, its spare room neither, by no call.
func TestArgumentsStay(t *testing.T) {
	room := append(pairs("b", "2", "a", "1"), pairs("x", "y", "w", "z")...)
	before := slices.Clone(room)
	for range 2 {
		label.Text(room[:2])
		label.Equal(room[:2], room[2:])
		label.Subset(room[:2], room[:3])
		label.Equal(room[:1], room[:1])
		if !slices.Equal(room, before) {
			t.Fatalf("%q, not %q", room, before)
		}
	}
}
