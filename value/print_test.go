package value_test

import (
	"encoding/binary"
	"math"
	"slices"
	"strconv"
	"strings"
	"testing"

	"keyloft/api"
	"keyloft/value"
)

// mixer: numbers without a pattern, the same in each run.
func mixer(seed uint64) func(below int) int {
	return func(below int) int {
		seed = seed*6364136223846793005 + 1442695040888963407
		return int(seed >> 33 % uint64(below))
	}
}

// drawnInt: of any size, also at the edges of bytes.
func drawnInt(draw func(int) int) int {
	n := 1<<draw(64) - draw(3)
	if draw(2) == 0 {
		return -n
	}
	return n
}

// drawnText: any bytes, seldom many.
func drawnText(draw func(int) int) string {
	n := draw(12)
	if draw(40) == 0 {
		n = draw(700)
	}
	b := make([]byte, n)
	for i := range b {
		b[i] = byte(draw(256))
	}
	return string(b)
}

// drawnValue: any value, that may hold so many lists within one another.
func drawnValue(draw func(int) int, lists int) any {
	switch kind := draw(6); {
	case kind == 0:
		return drawnInt(draw)
	case kind == 1:
		return drawnText(draw)
	case kind == 2:
		return draw(2) == 0
	case lists == 0:
		return draw(10)
	}
	l := []any{}
	for range draw(4) {
		l = append(l, drawnValue(draw, lists-1))
	}
	return l
}

// list: of values.
func list(l ...any) []any { return l }

// nested: a value within so many lists.
func nested(lists int, v any) any {
	for range lists {
		v = list(v)
	}
	return v
}

// many: a list of so many values.
func many(n int, v any) []any {
	l := make([]any, n)
	for i := range l {
		l[i] = v
	}
	return l
}

// byTheWords: a value's bytes, told as the chapter says it.
func byTheWords(v any) string {
	switch x := v.(type) {
	case int:
		return "i" + string(binary.BigEndian.AppendUint64(nil, uint64(int64(x))))
	case string:
		return "s" + string(binary.BigEndian.AppendUint16(nil, uint16(len(x)))) + x
	case bool:
		if x {
			return "y"
		}
		return "n"
	}
	l := v.([]any)
	out := "l" + string([]byte{byte(len(l))})
	for _, x := range l {
		out += byTheWords(x)
	}
	return out
}

// number, and it as a type of its own: these are no whole numbers, texts, yeses or lists of the chapter's.
type (
	number int
	text   string
	yes    bool
	row    []any
)

// others: what is no value, by what it is.
func others() map[string]any {
	one := 1
	return map[string]any{
		"nothing": nil, "int8": int8(1), "int16": int16(1), "int32": int32(1), "int64": int64(1), "rune": 'a',
		"uint": uint(1), "byte": byte(1), "uint16": uint16(1), "uint32": uint32(1), "uint64": uint64(1), "uintptr": uintptr(1),
		"float32": float32(1), "float64": 1.0, "no number": math.NaN(), "complex": complex(1, 0),
		"a number's type of its own": number(1), "a text's": text("a"), "a bool's": yes(true), "a list's": row{1}, "Errno": api.OK,
		"bytes": []byte("a"), "runes": []rune("a"), "numbers": []int{1}, "texts": []string{"a"}, "bools": []bool{true}, "lists": [][]any{{1}},
		"an array": [1]any{1}, "an array of numbers": [1]int{1}, "a map": map[string]any{"a": 1}, "a struct": struct{}{}, "a pair": api.Pair{Key: "a"},
		"a pointer": &one, "a pointer to nothing": (*int)(nil), "a pointer to a list": &[]any{1}, "a function": func() {}, "a channel": make(chan int),
	}
}

// prints: Print answers just these bytes.
func prints(t *testing.T, v any, want string) {
	t.Helper()
	if s, e := value.Print(v); e != api.OK || s != want {
		t.Errorf("%.80v: %d, %.200q, not %.200q", v, e, s, want)
	}
}

// printsNot: Print answers the error, and no bytes.
func printsNot(t *testing.T, what string, v any, want api.Errno) {
	t.Helper()
	if s, e := value.Print(v); e != want || s != "" {
		t.Errorf("%s: %d, not %d, with %d bytes", what, e, want, len(s))
	}
}

// P7.1: bytes, told one by one.
func TestPrint(t *testing.T) {
	prints(t, list(1, "a"), "l\x02i\x00\x00\x00\x00\x00\x00\x00\x01s\x00\x01a")
	prints(t, 0, "i\x00\x00\x00\x00\x00\x00\x00\x00")
	prints(t, 258, "i\x00\x00\x00\x00\x00\x00\x01\x02")
	prints(t, 0x0102030405060708, "i\x01\x02\x03\x04\x05\x06\x07\x08")
	prints(t, -1, "i\xff\xff\xff\xff\xff\xff\xff\xff")
	prints(t, -2, "i\xff\xff\xff\xff\xff\xff\xff\xfe")
	prints(t, math.MaxInt, "i\x7f\xff\xff\xff\xff\xff\xff\xff")
	prints(t, math.MinInt, "i\x80\x00\x00\x00\x00\x00\x00\x00")
	prints(t, "", "s\x00\x00")
	prints(t, "s", "s\x00\x01s")
	prints(t, "α\xff\x00", "s\x00\x04\xce\xb1\xff\x00")
	prints(t, true, "y")
	prints(t, false, "n")
	prints(t, list(), "l\x00")
	prints(t, []any(nil), "l\x00")
	prints(t, list(list()), "l\x01l\x00")
	prints(t, list(false, true, list("", list(-1)), true), "l\x04nyl\x02s\x00\x00l\x01i\xff\xff\xff\xff\xff\xff\xff\xffy")
}

// P7.1: texts have at most 65535 bytes, whichever runes they are, wherever they stand.
func TestLengthsOfTexts(t *testing.T) {
	for _, n := range []int{1, 254, 255, 256, 257, 511, 512, 4096, 65279, 65280, 65534, 65535} {
		text := strings.Repeat("t", n)
		head := "s" + string([]byte{byte(n / 256), byte(n % 256)})
		prints(t, text, head+text)
		prints(t, list(text, 1), "l\x02"+head+text+byTheWords(1))
	}
	prints(t, strings.Repeat("α", 32767), "s\xff\xfe"+strings.Repeat("α", 32767))
	for _, n := range []int{65536, 65537, 65791, 65792, 131071, 131072, 1 << 20} {
		text := strings.Repeat("t", n)
		what := "a text of " + strconv.Itoa(n)
		printsNot(t, what, text, api.ErrLong)
		printsNot(t, what+" in lists", list(list(1), list("", text)), api.ErrLong)
		printsNot(t, what+" in eight lists", nested(8, text), api.ErrLong)
	}
	printsNot(t, "32768 runes of two bytes", strings.Repeat("α", 32768), api.ErrLong)
}

// P7.1: lists have at most 255 values, wherever they stand.
func TestLengthsOfLists(t *testing.T) {
	for n := range 256 {
		prints(t, many(n, true), "l"+string([]byte{byte(n)})+strings.Repeat("y", n))
	}
	prints(t, many(255, many(255, "a")), byTheWords(many(255, many(255, "a"))))
	for _, n := range []int{256, 257, 510, 511, 512, 1000, 65536, 65537} {
		what := "a list of " + strconv.Itoa(n)
		printsNot(t, what, many(n, 1), api.ErrLong)
		printsNot(t, what+" in lists", list(1, list("a", many(n, false))), api.ErrLong)
		printsNot(t, what+" lists", many(n, list()), api.ErrLong)
	}
}

// P7.1: at most 8 lists stand within one another, the outermost one counted, empty ones, too.
func TestDepthOfLists(t *testing.T) {
	for n := range 9 {
		prints(t, nested(n, 1), strings.Repeat("l\x01", n)+byTheWords(1))
	}
	prints(t, nested(7, list()), strings.Repeat("l\x01", 7)+"l\x00")
	for _, n := range []int{9, 10, 16, 17, 255, 256, 257, 65536} {
		what := strconv.Itoa(n) + " lists within one another"
		printsNot(t, what, nested(n, 1), api.ErrLong)
		printsNot(t, what+", the last one empty", nested(n-1, list()), api.ErrLong)
		printsNot(t, what+", the last one nil", nested(n-1, []any(nil)), api.ErrLong)
		printsNot(t, what+" behind others", list(1, "a", list(), nested(n-1, 1)), api.ErrLong)
	}
}

// P7.1: lists count that stand within one another, not beside one another.
func TestListsBesideOneAnother(t *testing.T) {
	deep := nested(7, 1)
	prints(t, list(deep, deep, deep), "l\x03"+strings.Repeat(byTheWords(deep), 3))
	prints(t, many(255, deep), "l\xff"+strings.Repeat(byTheWords(deep), 255))
	mixed := list(list(), deep, nested(3, list(nested(3, "a"), 2)), deep, 3)
	prints(t, mixed, byTheWords(mixed))
	printsNot(t, "one too deep, behind those that aren't", list(deep, deep, nested(8, 1)), api.ErrLong)
}

// P7.1: what is of none of the types is no value, itself or in a list.
func TestOtherTypes(t *testing.T) {
	for what, v := range others() {
		printsNot(t, what, v, api.ErrType)
		printsNot(t, what+", in a list", list(v), api.ErrType)
		printsNot(t, what+", as the last one", list(1, "a", true, list(), v), api.ErrType)
		printsNot(t, what+", in eight lists", nested(8, v), api.ErrType)
		printsNot(t, what+", as the 255th", append(many(254, 1), v), api.ErrType)
	}
}

// P7.1: of several errors that one is answered that stands first, a list ahead of what is in it.
func TestFirstError(t *testing.T) {
	long := strings.Repeat("t", 65536)
	for what, v := range others() {
		printsNot(t, what+" ahead of a long text", list(v, long), api.ErrType)
		printsNot(t, what+" behind a long text", list(long, v), api.ErrLong)
		printsNot(t, what+" ahead of a long list", list(1, v, many(256, 1)), api.ErrType)
		printsNot(t, what+" behind a long list", list(1, many(256, 1), v), api.ErrLong)
		printsNot(t, what+" ahead of a deep list", list(list(v), nested(8, 1)), api.ErrType)
		printsNot(t, what+" behind a deep list", list(nested(8, 1), list(v)), api.ErrLong)
		printsNot(t, what+" in a long list", append(list(v), many(255, 1)...), api.ErrLong)
		printsNot(t, what+" in a long list, in a list", list(append(list(v), many(255, 1)...)), api.ErrLong)
		printsNot(t, what+" in the ninth list", nested(9, v), api.ErrLong)
		printsNot(t, what+" ahead of the ninth list", nested(7, list(v, list(1))), api.ErrType)
		printsNot(t, what+" behind the ninth list", nested(7, list(list(1), v)), api.ErrLong)
		printsNot(t, what+" in a list, ahead of a long text", list(list(list(v)), long), api.ErrType)
		printsNot(t, what+" behind a list with a long text", list(list(list(long)), v), api.ErrLong)
	}
}

// P7.1: values without a pattern, against the chapter's words.
func TestDrawnValues(t *testing.T) {
	draw := mixer(1)
	for range 5000 {
		v := drawnValue(draw, 8)
		prints(t, v, byTheWords(v))
	}
}

// P7.1: a list that has itself in it is too deep.
func TestListInItself(t *testing.T) {
	l := list(1, nil, nil)
	l[1], l[2] = l, l
	printsNot(t, "a list in itself", l, api.ErrLong)
}

// P7.1: what is handed in is not changed, its spare room neither, by no call.
func TestArgumentsStay(t *testing.T) {
	inner := list(1, "a", true, "spare")
	room := list(inner[:2], "b", list(), "more", "room")
	at := []int{0, 1, 7}
	for range 2 {
		value.Print(room[:3])
		value.Same(room[:3], room[:2])
		value.Int(room[:3], at[:1]...)
		value.Text(room[:3], at[:2]...)
		value.Bool(room[:1], at[1:]...)
		if l, e := value.List(room[:3]); e == api.OK {
			_ = append(l, 1)
			_ = append(l[0].([]any), 2)
		}
		if !slices.Equal(at, []int{0, 1, 7}) || len(room[0].([]any)) != 2 || !slices.Equal(inner, list(1, "a", true, "spare")) || !slices.Equal(room[3:], list("more", "room")) || room[1] != "b" {
			t.Fatal(room, inner, at)
		}
	}
}
