package value_test

import (
	"math"
	"strings"
	"testing"

	"keyloft/value"
)

// same: Same answers so, whichever stands first.
func same(t *testing.T, a, b any, want bool) {
	t.Helper()
	if value.Same(a, b) != want || value.Same(b, a) != want {
		t.Errorf("%.80v and %.80v: %v, %v, not %v", a, b, value.Same(a, b), value.Same(b, a), want)
	}
}

// P7.2: values, with themselves and with each other.
func TestSame(t *testing.T) {
	values := list(0, 1, -1, 256, math.MaxInt, math.MinInt, "", "a", "b", "ab", "0", "a\x00", "α", "i", "y", true, false, list(), list(0), list(1), list(""), list("a"), list(true), list(false), list(list()), list(1, 2), list(2, 1), list(list(1), 2), list(1, list(2)), list(1, 2, list()), nested(8, 1), nested(7, list()), many(255, 1), many(254, 1), strings.Repeat("t", 65535), strings.Repeat("t", 65534))
	for i, a := range values {
		for j, b := range values {
			same(t, a, b, i == j)
		}
	}
}

// P7.2: lists are held against each other by what is in them; an empty one may be nil.
func TestSameLists(t *testing.T) {
	l := list(1, list("a", true), list())
	same(t, l, list(1, list("a", true), list()), true)
	same(t, l, list(1, list("a", true), []any(nil)), true)
	same(t, l, list(1, list("a", false), list()), false)
	same(t, l, l[:2], false)
	same(t, l[:2], list(1, list("a", true)), true)
	same(t, list(), []any(nil), true)
	same(t, list(list()), list([]any(nil)), true)
	same(t, []any(nil), nil, false)
}

// P7.2: what has no bytes isn't the same as anything, itself neither.
func TestSameOfNoValues(t *testing.T) {
	none := others()
	none["a long text"], none["a long list"], none["a deep list"] = strings.Repeat("t", 65536), many(256, 1), nested(9, 1)
	for _, v := range none {
		same(t, v, v, false)
		same(t, list(v), list(v), false)
		same(t, list(1, v), list(1, v), false)
		for _, w := range list(nil, 0, 1, "", "a", true, false, list(), list(1), 1.0, strings.Repeat("t", 65536), many(256, 1)) {
			same(t, v, w, false)
			same(t, list(v), list(w), false)
		}
	}
	same(t, "\x00\x01a", nil, false)
}

// P7.2, P7.3: two values have the same bytes only if they are the same: all short ones, and ones without a pattern.
func TestOneRowOfBytes(t *testing.T) {
	seen := map[string]any{}
	draw := mixer(7)
	values := list()
	for n := range 7 {
		values = append(values, shortValues("\x00s", n)...)
	}
	for range 3000 {
		values = append(values, drawnValue(draw, 3))
	}
	last := any(1)
	for _, v := range values {
		s, _ := value.Print(v)
		if other, has := seen[s]; has && !alike(v, other) {
			t.Fatalf("%v and %v: %q", v, other, s)
		}
		seen[s] = v
		same(t, v, v, true)
		same(t, v, last, alike(v, last))
		back, _ := value.Parse(s)
		same(t, v, back, true)
		last = v
	}
}
