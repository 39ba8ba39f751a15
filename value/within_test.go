package value_test

import (
	"math"
	"runtime"
	"strings"
	"testing"

	"keyloft/api"
	"keyloft/value"
)

// finds: that one of Int, Text, Bool and List that is of the value's type answers it, and the others answer ErrType, and nothing.
func finds(t *testing.T, want, v any, at ...int) {
	t.Helper()
	errs := [4]api.Errno{api.ErrType, api.ErrType, api.ErrType, api.ErrType}
	var n int
	var s string
	var b bool
	var l []any
	switch x := want.(type) {
	case int:
		n, errs[0] = x, api.OK
	case string:
		s, errs[1] = x, api.OK
	case bool:
		b, errs[2] = x, api.OK
	case []any:
		l, errs[3] = x, api.OK
	}
	answers(t, v, at, errs, n, s, b, l)
}

// findsNot: all four answer the error, and nothing.
func findsNot(t *testing.T, want api.Errno, v any, at ...int) {
	t.Helper()
	answers(t, v, at, [4]api.Errno{want, want, want, want}, 0, "", false, nil)
}

// answers: Int, Text, Bool and List answer just this.
func answers(t *testing.T, v any, at []int, errs [4]api.Errno, n int, s string, b bool, l []any) {
	t.Helper()
	if x, e := value.Int(v, at...); x != n || e != errs[0] {
		t.Errorf("Int of %.80v at %v: %d, %d, not %d, %d", v, at, x, e, n, errs[0])
	}
	if x, e := value.Text(v, at...); x != s || e != errs[1] {
		t.Errorf("Text of %.80v at %v: %.80q, %d, not %.80q, %d", v, at, x, e, s, errs[1])
	}
	if x, e := value.Bool(v, at...); x != b || e != errs[2] {
		t.Errorf("Bool of %.80v at %v: %v, %d, not %v, %d", v, at, x, e, b, errs[2])
	}
	if x, e := value.List(v, at...); !alike(x, l) || e != errs[3] {
		t.Errorf("List of %.80v at %v: %.80v, %d, not %.80v, %d", v, at, x, e, l, errs[3])
	}
}

// P7.2: values themselves, where there are no places.
func TestNoPlaces(t *testing.T) {
	for _, v := range list(0, 1, -1, math.MaxInt, math.MinInt, "", "a", "1", "α\xff\x00", strings.Repeat("t", 65535), true, false, list(), list(0), list("", false), list(list(), list(1, list("a")))) {
		finds(t, v, v)
	}
	finds(t, list(), []any(nil))
	for _, v := range others() {
		findsNot(t, api.ErrType, v)
	}
}

// P7.2: through places, each counted from 0 on.
func TestPlaces(t *testing.T) {
	v := list(7, "a", true, list("b", list(), list(8, false, list(9))), false, "", 0)
	finds(t, 7, v, 0)
	finds(t, "a", v, 1)
	finds(t, true, v, 2)
	finds(t, list("b", list(), list(8, false, list(9))), v, 3)
	finds(t, false, v, 4)
	finds(t, "", v, 5)
	finds(t, 0, v, 6)
	finds(t, "b", v, 3, 0)
	finds(t, list(), v, 3, 1)
	finds(t, list(8, false, list(9)), v, 3, 2)
	finds(t, 8, v, 3, 2, 0)
	finds(t, false, v, 3, 2, 1)
	finds(t, list(9), v, 3, 2, 2)
	finds(t, 9, v, 3, 2, 2, 0)
}

// P7.2: all places of values without a pattern, and those about them.
func TestDrawnPlaces(t *testing.T) {
	draw := mixer(6)
	for range 1000 {
		v := drawnValue(draw, 8)
		goThrough(t, v, v, nil)
	}
}

// goThrough: all places from what is come to on.
func goThrough(t *testing.T, whole, come any, at []int) {
	t.Helper()
	finds(t, come, whole, at...)
	l, isList := come.([]any)
	wrong := api.ErrType
	if isList {
		wrong = api.ErrNone
	}
	for _, place := range []int{len(l), -1, len(l) + 1, math.MaxInt, math.MinInt} {
		findsNot(t, wrong, whole, append(at[:len(at):len(at)], place)...)
		findsNot(t, wrong, whole, append(at[:len(at):len(at)], place, 0)...)
	}
	for i, x := range l {
		goThrough(t, whole, x, append(at[:len(at):len(at)], i))
	}
}

// P7.2: places that there aren't.
func TestNoSuchPlaces(t *testing.T) {
	v := list(list(1, 2), many(255, "a"))
	for _, place := range []int{-1, -2, 2, 3, 255, 256, 257, 1 << 32, 1<<32 + 1, math.MaxInt, math.MinInt, -1 << 32} {
		findsNot(t, api.ErrNone, v, place)
		findsNot(t, api.ErrNone, v, place, 0)
		findsNot(t, api.ErrNone, v, 0, place)
		findsNot(t, api.ErrNone, list(), place)
	}
	findsNot(t, api.ErrNone, list(), 0)
	findsNot(t, api.ErrNone, []any(nil), 0)
	findsNot(t, api.ErrNone, []any(nil), 0, 0)
	finds(t, "a", v, 1, 254)
	findsNot(t, api.ErrNone, v, 1, 255)
	findsNot(t, api.ErrNone, v[:1], 1)
}

// P7.2: going ends where what is come to isn't a list, or has no such place, whatever places are behind it.
func TestWhereGoingEnds(t *testing.T) {
	v := list(1, "ab", true, list())
	for place := range 3 {
		for _, behind := range []int{0, 1, -1, 5} {
			findsNot(t, api.ErrType, v, place, behind)
			findsNot(t, api.ErrType, v, place, behind, behind)
		}
	}
	findsNot(t, api.ErrNone, v, 3, 0, 0)
	findsNot(t, api.ErrNone, v, 4, 0)
	for what, x := range others() {
		findsNot(t, api.ErrType, x, 0)
		findsNot(t, api.ErrType, x, -1)
		findsNot(t, api.ErrType, list(x), 0)
		findsNot(t, api.ErrType, list(x), 0, 0)
		findsNot(t, api.ErrNone, list(x), 1, 0)
		if n, e := value.Int(list(x, list(x, 5)), 1, 1); n != 5 || e != api.OK {
			t.Errorf("beside %s: %d, %d", what, n, e)
		}
	}
}

// P7.2: what has no bytes is gone through, too: only what is come to is looked at.
func TestPlacesOfLargeValues(t *testing.T) {
	finds(t, "a", append(many(300, 1), "a"), 300)
	finds(t, strings.Repeat("t", 65536), list(strings.Repeat("t", 65536)), 0)
	finds(t, many(256, 1), many(256, 1))
	finds(t, 5, nested(9, 5), make([]int, 9)...)
	finds(t, 5, nested(1<<16, 5), make([]int, 1<<16)...)
	findsNot(t, api.ErrType, nested(1<<16, 5), make([]int, 1<<16+1)...)
	if l, e := value.List(nested(1<<16, 5)); e != api.OK || len(l) != 1 {
		t.Errorf("lists nested: %d, %d", len(l), e)
	}
}

// P7.2: a list is answered as new memory, and all lists in it.
func TestListsApart(t *testing.T) {
	twice := list(1, 2)
	v := list("a", twice, list(twice), twice)
	for _, at := range [][]int{nil, {1}, {2}} {
		l, e := value.List(v, at...)
		if e != api.OK {
			t.Fatal(e)
		}
		spoil(l)
		if !alike(v, list("a", list(1, 2), list(list(1, 2)), list(1, 2))) || !alike(twice, list(1, 2)) {
			t.Fatalf("at %v the answer shares memory with the value: %v", at, v)
		}
	}
	l, _ := value.List(v)
	spoil(l[1].([]any))
	if !alike(l, list("a", list("spoilt", "spoilt"), list(list(1, 2)), list(1, 2))) {
		t.Error("two lists of one answer share memory:", l)
	}
	l, _ = value.List(v)
	m, _ := value.List(v)
	spoil(l)
	if !alike(m, v) {
		t.Error("two answers share memory:", m)
	}
}

// spoil: all that a list has, and its lists.
func spoil(l []any) {
	for i, v := range l {
		if inner, ok := v.([]any); ok {
			spoil(inner)
		}
		l[i] = "spoilt"
	}
	room := l[:cap(l)]
	for i := len(l); i < len(room); i++ {
		room[i] = "spoilt"
	}
}

// P7.2: the answer isn't changed by what becomes of the value.
func TestListsNotKept(t *testing.T) {
	v := list(list(1), list(list("a")))
	l, _ := value.List(v)
	spoil(v)
	if !alike(l, list(list(1), list(list("a")))) {
		t.Error(l)
	}
}

// panicked: what MustText panics with, nil if it doesn't.
func panicked(v any) (why any) {
	defer func() { why = recover() }()
	value.MustText(v)
	return nil
}

// P7.2: MustText answers texts, and panics of all else as a type assertion does.
func TestMustText(t *testing.T) {
	for _, s := range []string{"", "a", "α\xff\x00", strings.Repeat("t", 65535), strings.Repeat("t", 65536)} {
		if value.MustText(s) != s {
			t.Errorf("%.80q: %.80q", s, value.MustText(s))
		}
	}
	wrong := others()
	wrong["a number"], wrong["yes"], wrong["no"], wrong["no list"], wrong["a list"], wrong["a text in a list"] = 1, true, false, []any(nil), list(), list("a")
	for what, v := range wrong {
		if _, ok := panicked(v).(*runtime.TypeAssertionError); !ok {
			t.Errorf("%s: %v", what, panicked(v))
		}
	}
}
