package store_test

import (
	"encoding/hex"
	"strconv"
	"strings"
	"testing"

	"keyloft/api"
	"keyloft/store"
)

// P10.2: the chapter's example, and others, with the texts' bytes as another program tells them.
func TestExample(t *testing.T) {
	d := made(t, 64)
	s := opened(t, d)
	var texts []string
	for _, x := range []struct {
		changes []store.Change
		text    string
		keys    words
	}{
		{[]store.Change{put("a", 1), gone("a")}, "6c026c0273000161690000000000000001" + "6c0173000161", nil},
		{[]store.Change{put("k/1", list("ann", list(1, 0, 0, 1), list()))}, "6c016c027300036b2f316c037300" + "03616e6e6c046900000000000000016900000000000000006900000000000000006900000000000000016c00", words{"k/1": bytesOf(list("ann", list(1, 0, 0, 1), list()))}},
		{nil, "6c00", words{"k/1": bytesOf(list("ann", list(1, 0, 0, 1), list()))}},
		{[]store.Change{gone("none"), put("", false), put("b", -1)}, "6c036c017300046e6f6e656c027300006e6c0273000162" + "69ffffffffffffffff", words{"": "n", "b": bytesOf(-1), "k/1": bytesOf(list("ann", list(1, 0, 0, 1), list()))}},
		{[]store.Change{gone("k/1"), put("b", true)}, "6c026c017300036b2f316c027300016279", words{"": "n", "b": "y"}},
	} {
		is(t, "Commit", s.Commit(x.changes...), api.OK)
		text, err := hex.DecodeString(x.text)
		if err != nil {
			t.Fatal(err)
		}
		texts = append(texts, string(text))
		lies(t, d, texts...)
		has(t, s, x.keys)
		has(t, opened(t, d), x.keys)
	}
}

// P10.2: changes go one behind the other.
func TestOrder(t *testing.T) {
	for i, x := range []struct {
		changes []store.Change
		want    words
	}{
		{[]store.Change{put("a", 1), put("a", 2)}, words{"a": bytesOf(2)}},
		{[]store.Change{put("a", 1), gone("a"), put("a", 3)}, words{"a": bytesOf(3)}},
		{[]store.Change{gone("a"), put("a", 1)}, words{"a": bytesOf(1)}},
		{[]store.Change{put("a", 1), put("b", 2), gone("a")}, words{"b": bytesOf(2)}},
		{[]store.Change{gone("a"), gone("a")}, nil},
	} {
		for _, ahead := range [][]store.Change{nil, {put("a", "old")}} {
			d := made(t, 8)
			s := opened(t, d)
			is(t, "Commit", s.Commit(ahead...), api.OK)
			is(t, "Commit", s.Commit(x.changes...), api.OK)
			has(t, s, x.want)
			lies(t, d, textOf(ahead...), textOf(x.changes...))
			has(t, opened(t, d), x.want)
			if t.Failed() {
				t.Fatal(i)
			}
		}
	}
}

// P10.2: what is Gone has no value in the text, whatever its Value is.
func TestGoneHasNoValue(t *testing.T) {
	d := made(t, 8)
	s := opened(t, d)
	is(t, "Commit", s.Commit(put("a", 1)), api.OK)
	for _, v := range []any{1, "text", list(1), 1.5, nested(20, 1), repeated(70000)} {
		is(t, "Commit", s.Commit(store.Change{Key: "a", Value: v, Gone: true}), api.OK)
		hasNot(t, s, "a")
	}
	for _, text := range lying(t, d).Texts()[1:] {
		if text != "l\x01l\x01s\x00\x01a" {
			t.Errorf("%q", text)
		}
	}
}

// loop: a list that has itself in it.
func loop() []any {
	l := list(1, nil)
	l[1] = l
	return l
}

// most: so many changes.
func most(n int, c store.Change) []store.Change {
	l := make([]store.Change, n)
	for i := range l {
		l[i] = c
	}
	return l
}

// P10.2: ErrType and ErrLong are Print's, of what stands first; nothing changes, on the disk neither.
func TestRefused(t *testing.T) {
	long := repeated(65536)
	for name, x := range map[string]struct {
		changes []store.Change
		want    api.Errno
	}{
		"nil":                         {[]store.Change{put("b", nil)}, api.ErrType},
		"a change of nothing":         {[]store.Change{{}}, api.ErrType},
		"a float":                     {[]store.Change{put("b", 1.0)}, api.ErrType},
		"a byte":                      {[]store.Change{put("b", byte(1))}, api.ErrType},
		"a number of 64 bits":         {[]store.Change{put("b", int64(1))}, api.ErrType},
		"a list of texts":             {[]store.Change{put("b", []string{"c"})}, api.ErrType},
		"bytes":                       {[]store.Change{put("b", []byte("c"))}, api.ErrType},
		"an Errno":                    {[]store.Change{put("b", api.OK)}, api.ErrType},
		"a change":                    {[]store.Change{put("b", put("c", 1))}, api.ErrType},
		"a map":                       {[]store.Change{put("b", map[string]any{"c": 1})}, api.ErrType},
		"a function":                  {[]store.Change{put("b", func() {})}, api.ErrType},
		"nil in a list":               {[]store.Change{put("b", list(1, nil))}, api.ErrType},
		"nil deep in lists":           {[]store.Change{put("b", nested(6, nil))}, api.ErrType},
		"behind good ones":            {[]store.Change{put("b", 1), gone("a"), put("c", nil)}, api.ErrType},
		"ahead of good ones":          {[]store.Change{put("c", nil), put("b", 1), gone("a")}, api.ErrType},
		"a long text":                 {[]store.Change{put("b", long)}, api.ErrLong},
		"a long key":                  {[]store.Change{put(long, 1)}, api.ErrLong},
		"a long key that is gone":     {[]store.Change{gone(long)}, api.ErrLong},
		"a long list":                 {[]store.Change{put("b", make([]any, 256))}, api.ErrLong},
		"a long text in a list":       {[]store.Change{put("b", list(list(long)))}, api.ErrLong},
		"7 lists within one another":  {[]store.Change{put("b", nested(6, list()))}, api.ErrLong},
		"7 lists, with a value":       {[]store.Change{put("b", nested(7, 1))}, api.ErrLong},
		"100 lists":                   {[]store.Change{put("b", nested(100, 1))}, api.ErrLong},
		"a list that has itself":      {[]store.Change{put("b", loop())}, api.ErrLong},
		"256 changes":                 {most(256, put("b", 1)), api.ErrLong},
		"256 that are gone":           {most(256, gone("a")), api.ErrLong},
		"70000 changes":               {most(70000, put("b", 1)), api.ErrLong},
		"256 of nil":                  {most(256, put("b", nil)), api.ErrLong},
		"255 of nil":                  {most(255, put("b", nil)), api.ErrType},
		"a wrong type, a long text":   {[]store.Change{put("b", nil), put("c", long)}, api.ErrType},
		"a long text, a wrong type":   {[]store.Change{put("c", long), put("b", nil)}, api.ErrLong},
		"a long key, a wrong type":    {[]store.Change{put(long, nil)}, api.ErrLong},
		"a wrong type, a long key":    {[]store.Change{put("b", nil), gone(long)}, api.ErrType},
		"a wrong type, deep lists":    {[]store.Change{put("b", list(nil, nested(6, 1)))}, api.ErrType},
		"deep lists, a wrong type":    {[]store.Change{put("b", list(nested(6, 1), nil))}, api.ErrLong},
		"a wrong type, where no room": {[]store.Change{put("b", repeated(600)), put("c", nil)}, api.ErrType},
	} {
		d := made(t, 16)
		s := opened(t, d)
		is(t, "Commit", s.Commit(put("a", list(1))), api.OK)
		untouched(t, d, func() { is(t, name, s.Commit(x.changes...), x.want) })
		has(t, s, words{"a": bytesOf(list(1))})
		is(t, "Commit", s.Commit(put("b", 2)), api.OK)
		has(t, opened(t, d), words{"a": bytesOf(list(1)), "b": bytesOf(2)})
		lies(t, d, textOf(put("a", list(1))), textOf(put("b", 2)))
	}
}

// P10.2: as much as may be printed: 255 changes, a longest list, 6 lists within one another.
func TestMost(t *testing.T) {
	var changes []store.Change
	for i := range 255 {
		changes = append(changes, put(strconv.Itoa(i), i))
	}
	d := made(t, 512)
	s := opened(t, d)
	is(t, "255 changes", s.Commit(changes...), api.OK)
	want := words{}.behind(changes...)
	has(t, s, want)
	lies(t, d, textOf(changes...))
	more := []store.Change{put("list", make([]any, 0, 255)), put("deep", nested(5, list())), put("deep too", nested(6, "v"))}
	for i := range 255 {
		more[0].Value = append(more[0].Value.([]any), i)
	}
	is(t, "more", s.Commit(more...), api.OK)
	want = want.behind(more...)
	has(t, s, want)
	lies(t, d, textOf(changes...), textOf(more...))
	has(t, opened(t, d), want)
}

// P10.2: a transaction's text may have 65535 bytes; one more isn't appended, nor made anew, whatever room there is.
func TestLongest(t *testing.T) {
	d := made(t, 4096)
	s := opened(t, d)
	is(t, "Commit", s.Commit(put("a", 1)), api.OK)
	around := len(textOf(put("b", "")))
	c := put("b", repeated(65536-around))
	untouched(t, d, func() { is(t, "one byte more", s.Commit(c), api.ErrFull) })
	untouched(t, d, func() { is(t, "a longest key", s.Commit(put(repeated(65535), 1)), api.ErrFull) })
	untouched(t, d, func() {
		is(t, "two in one", s.Commit(put("b", repeated(40000)), put("c", repeated(40000))), api.ErrFull)
	})
	has(t, s, words{"a": bytesOf(1)})
	c.Value = repeated(65535 - around)
	is(t, "as long as may be", s.Commit(c), api.OK)
	lies(t, d, textOf(put("a", 1)), textOf(c))
	has(t, opened(t, d), words{"a": bytesOf(1), "b": bytesOf(c.Value)})
}

// P10.2: what is handed in is neither changed nor kept.
func TestHandedIn(t *testing.T) {
	d := made(t, 64)
	s := opened(t, d)
	inner := append(make([]any, 0, 4), 1)
	outer := list(inner, "a")
	changes := append(make([]store.Change, 0, 4), put("a", outer), put("b", inner))
	is(t, "Commit", s.Commit(changes...), api.OK)
	if c := changes[:3]; c[0].Key != "a" || c[1].Key != "b" || c[2].Key != "" || inner[:2][1] != nil || bytesOf(outer) != bytesOf(list(list(1), "a")) {
		t.Error("what is handed in is changed")
	}
	inner[0], outer[1], changes[1] = 7, "other", gone("a")
	want := words{"a": bytesOf(list(list(1), "a")), "b": bytesOf(list(1))}
	has(t, s, want)
	is(t, "Compact", s.Compact(), api.OK)
	has(t, s, want)
	has(t, opened(t, d), want)
}

// P10.2: two keys that were put with one list, or got one, share no memory.
func TestOneListUnderTwoKeys(t *testing.T) {
	s := opened(t, made(t, 64))
	l := list(1, list(2))
	is(t, "Commit", s.Commit(put("a", l), put("b", l), put("c", list(l, l))), api.OK)
	for _, key := range []string{"a", "b"} {
		v, _ := s.Get(key)
		v.([]any)[1].([]any)[0] = "other"
	}
	has(t, s, words{"a": bytesOf(l), "b": bytesOf(l), "c": bytesOf(list(l, l))})
	v, _ := s.Get("c")
	v.([]any)[0].([]any)[0] = "other"
	if v.([]any)[1].([]any)[0] != 1 {
		t.Error("two lists of an answer share memory")
	}
}

// P10.2: where there is no room the store behind it is made anew: 16 keys a transaction, with the change done.
func TestNoRoom(t *testing.T) {
	d := made(t, 20)
	s := opened(t, d)
	want := words{}
	var texts []string
	anew := 0
	for i := range 100 {
		changes := []store.Change{put("k"+strconv.Itoa(i%7), i), gone("k" + strconv.Itoa((i+3)%7))}
		want = want.behind(changes...)
		is(t, "Commit", s.Commit(changes...), api.OK)
		if len(texts) == 10 || 64*(10-used(texts))-50 < len(textOf(changes...)) {
			texts, anew = want.anew(), anew+1
		} else {
			texts = append(texts, textOf(changes...))
		}
		lies(t, d, texts...)
		has(t, s, want)
		has(t, opened(t, d), want)
		if t.Failed() {
			t.Fatal(i)
		}
	}
	if anew < 10 {
		t.Error(anew)
	}
}

// used: how many sectors the records of texts lie on.
func used(texts []string) int {
	n := 0
	for _, s := range texts {
		n += (len(s) + 50 + 63) / 64
	}
	return n
}

// P10.2: a transaction that is too long to be appended goes if it does as others: of 17 keys, or of fewer that stay.
func TestTooLongButAnew(t *testing.T) {
	d := made(t, 4096)
	s := opened(t, d)
	var changes []store.Change
	for i := range 32 {
		changes = append(changes, put(strconv.Itoa(i), repeated(3000)))
	}
	want := words{}.behind(changes...)
	is(t, "Commit", s.Commit(changes...), api.OK)
	lies(t, d, want.anew()...)
	if len(want.anew()) != 2 {
		t.Error("not two")
	}
	has(t, s, want)
	for i := range 30 {
		changes[i] = put("same", repeated(3000))
	}
	want = want.behind(gone("0"), gone("1"))
	changes = append(changes, gone("0"), gone("1"), put("same", 1))
	want = want.behind(changes...)
	is(t, "Commit", s.Commit(changes...), api.OK)
	lies(t, d, want.anew()...)
	has(t, s, want)
	has(t, opened(t, d), want)
}

// P10.2: ErrFull, where it doesn't go anew either: nothing changes, and what is shorter still goes.
func TestFull(t *testing.T) {
	d := made(t, 8)
	s := opened(t, d)
	is(t, "Commit", s.Commit(put("a", repeated(150))), api.OK)
	text := textOf(put("a", repeated(150)))
	want := words{"a": bytesOf(repeated(150))}
	around := len(textOf(put("a", repeated(150)), put("b", "")))
	for _, changes := range [][]store.Change{{put("b", repeated(206-around+1))}, {put("b", repeated(500))}, {gone("a"), put("c", repeated(400))}, {put("a", repeated(250))}, {put("b", repeated(60)), gone("c")}} {
		untouched(t, d, func() { is(t, "Commit", s.Commit(changes...), api.ErrFull) })
		lies(t, d, text)
		has(t, s, want)
		hasNot(t, s, "b", "c")
	}
	is(t, "Commit", s.Commit(put("b", repeated(206-around))), api.OK)
	want = want.behind(put("b", repeated(206-around)))
	has(t, s, want)
	lies(t, d, textOf(put("a", repeated(150)), put("b", repeated(206-around))))
	untouched(t, d, func() { is(t, "Commit", s.Commit(put("c", 1)), api.ErrFull) })
	untouched(t, d, func() { is(t, "Commit", s.Commit(put("b", repeated(206-around+1))), api.ErrFull) })
	is(t, "Commit", s.Commit(put("b", "short")), api.OK)
	is(t, "Commit", s.Commit(gone("a")), api.OK)
	has(t, opened(t, d), words{"b": bytesOf("short")})
}

// P10.2: how many records there are counts, too: keys that went in by one transaction may not go into those of 16.
func TestFullOfRecords(t *testing.T) {
	d := made(t, 20)
	s := opened(t, d)
	var changes []store.Change
	for i := range 64 {
		changes = append(changes, put(string([]byte{byte(i)}), true))
	}
	is(t, "Commit", s.Commit(changes...), api.OK)
	want := words{}.behind(changes...)
	untouched(t, d, func() { is(t, "Commit", s.Commit(changes...), api.ErrFull) })
	untouched(t, d, func() { is(t, "Compact", s.Compact(), api.ErrFull) })
	has(t, s, want)
	lies(t, d, textOf(changes...))
	is(t, "Commit", s.Commit(gone("\x00")), api.OK)
	lies(t, d, textOf(changes...), textOf(gone("\x00")))
}

// P10.2: to make anew what has no key is to make it of a transaction without changes.
func TestNoRoomAndNoKey(t *testing.T) {
	d := made(t, 8)
	s := opened(t, d)
	is(t, "Commit", s.Commit(put("a", repeated(150))), api.OK)
	is(t, "Commit", s.Commit(gone("a"), put(strings.Repeat("b", 60), 1), gone(strings.Repeat("b", 60))), api.OK)
	lies(t, d, "l\x00")
	has(t, s, nil)
	has(t, opened(t, d), nil)
}
