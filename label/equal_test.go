package label_test

import (
	"slices"
	"strings"
	"testing"

	"keyloft/api"
	"keyloft/label"
)

// smallContexts: of the keys a, b and ab, each with one of three values or missing, in all orders.
func smallContexts() [][]api.Pair {
	contexts := [][]api.Pair{nil}
	for _, key := range []string{"a", "b", "ab"} {
		for _, shorter := range contexts {
			for _, value := range []string{"", "1", "b"} {
				contexts = append(contexts, append(slices.Clone(shorter), api.Pair{Key: key, Value: value}))
			}
		}
	}
	var out [][]api.Pair
	for _, c := range contexts {
		out = append(out, orders(c)...)
	}
	return out
}

// within: is each pair of a one of b?
func within(a, b []api.Pair) bool {
	for _, p := range a {
		if !slices.Contains(b, p) {
			return false
		}
	}
	return true
}

// holds: Equal and Subset answer so.
func holds(t *testing.T, what string, a, b []api.Pair, equal, subset bool) {
	t.Helper()
	if e, s := label.Equal(a, b), label.Subset(a, b); e != equal || s != subset {
		t.Errorf("%s, %.200q and %.200q: equal %v, subset %v", what, a, b, e, s)
	}
}

// P6.2: ordinary contexts, and the empty one, which is one of all.
func TestEqual(t *testing.T) {
	ab, ba := pairs("a", "1", "b", "2"), pairs("b", "2", "a", "1")
	holds(t, "none", nil, nil, true, true)
	holds(t, "none, and an empty list", nil, []api.Pair{}, true, true)
	holds(t, "an empty list, and none", []api.Pair{}, nil, true, true)
	holds(t, "itself", ab, ab, true, true)
	holds(t, "another order", ab, ba, true, true)
	holds(t, "a part", ab[:1], ba, false, true)
	holds(t, "the other part", ab[1:], ba, false, true)
	holds(t, "the whole", ab, ba[:1], false, false)
	holds(t, "none, and some", nil, ab, false, true)
	holds(t, "some, and none", ab, nil, false, false)
	holds(t, "another value", ab, pairs("a", "1", "b", "3"), false, false)
	holds(t, "another key", ab, pairs("a", "1", "c", "2"), false, false)
	holds(t, "a value of another key", ab, pairs("a", "2", "b", "1"), false, false)
	holds(t, "key and value changed about", pairs("a", "b"), pairs("b", "a"), false, false)
	holds(t, "a longer value", pairs("a", "1"), pairs("a", "11"), false, false)
	holds(t, "an empty value", pairs("a", ""), pairs("a", "1"), false, false)
	holds(t, "an empty value, and another key", pairs("a", ""), pairs("b", ""), false, false)
	holds(t, "an empty value, and no such key", pairs("a", ""), nil, false, false)
	holds(t, "an empty value, among others", pairs("a", ""), pairs("b", "1", "a", ""), false, true)
	holds(t, "letters large and small", pairs("a", "x"), pairs("A", "x"), false, false)
	holds(t, "noughts behind", pairs("a", "x"), pairs("a\x00", "x"), false, false)
	holds(t, "one text, cut elsewhere", pairs("ab", "c"), pairs("a", "bc"), false, false)
}

// P6.2: contexts as large as may be.
func TestLargeContexts(t *testing.T) {
	whole := many(8)
	turned := slices.Clone(whole)
	slices.Reverse(turned)
	holds(t, "eight pairs", whole, turned, true, true)
	for n := range 8 {
		holds(t, "fewer", whole[:n], turned, false, true)
		holds(t, "more", turned, whole[:n], false, false)
		other := slices.Clone(turned)
		other[n].Value += "x"
		holds(t, "another value", whole, other, false, false)
		other[n] = api.Pair{Key: other[n].Key + "x", Value: turned[n].Value}
		holds(t, "another key", whole, other, false, false)
	}
	key, value := strings.Repeat("k", 31), strings.Repeat("v", 63)
	holds(t, "longest ones", pairs(key+"1", value+"1"), pairs(key+"1", value+"1"), true, true)
	holds(t, "the key's last byte", pairs(key+"1", value+"1"), pairs(key+"2", value+"1"), false, false)
	holds(t, "the value's last byte", pairs(key+"1", value+"1"), pairs(key+"1", value+"2"), false, false)
}

// P6.2: what is no context is equal to nothing, itself neither, and no part of anything, nor is anything one of it.
func TestNoContextsCompared(t *testing.T) {
	for what, none := range noContexts() {
		holds(t, what, none, none, false, false)
		holds(t, what, none, slices.Clone(none), false, false)
		holds(t, what, none, nil, false, false)
		holds(t, what, nil, none, false, false)
		holds(t, what, none[:1], none, false, false)
		for _, context := range [][]api.Pair{pairs("a", "1"), pairs("a", "1", "a2", "1"), many(1), many(7), many(8)} {
			holds(t, what, none, context, false, false)
			holds(t, what, context, none, false, false)
		}
	}
	holds(t, "a pair twice, and once", pairs("a", "1", "a", "1"), pairs("a", "1"), false, false)
	holds(t, "a pair once, and twice", pairs("a", "1"), pairs("a", "1", "a", "1"), false, false)
	holds(t, "a pair twice, and two", pairs("a", "1", "a", "1"), pairs("a", "1", "b", "2"), false, false)
	holds(t, "two, and a pair twice", pairs("a", "1", "b", "2"), pairs("a", "1", "a", "1"), false, false)
}

// P6.2, P6.3: all small contexts in all orders, against the chapter's words; equal ones are those of one text.
func TestAllSmallContexts(t *testing.T) {
	contexts := smallContexts()
	for _, a := range contexts {
		for _, b := range contexts {
			subset, back := within(a, b), within(b, a)
			holds(t, "small ones", a, b, subset && back, subset)
			if (byTheWords(a) == byTheWords(b)) != label.Equal(a, b) {
				t.Errorf("%q and %q: another text", a, b)
			}
		}
	}
}

// P6.2, P6.3: what is parsed of a text is equal to what the text was told of.
func TestParsedIsEqual(t *testing.T) {
	draw := mixer(4)
	last := pairs("last", "one")
	for range 500 {
		context := drawnContext(draw)
		text, e := label.Text(context)
		back, f := label.Parse(text)
		if e != api.OK || f != api.OK {
			t.Fatalf("%q: %d, %d", context, e, f)
		}
		holds(t, "parsed", context, back, true, true)
		holds(t, "parsed, the other way round", back, context, true, true)
		holds(t, "an earlier one", last, context, within(last, context) && within(context, last), within(last, context))
		last = context
	}
}
