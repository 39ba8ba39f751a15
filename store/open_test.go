package store_test

import (
	"math"
	"slices"
	"strings"
	"testing"

	"keyloft/api"
	"keyloft/disk"
	"keyloft/store"
)

// written: a disk on which a journal tells these texts.
func written(t *testing.T, sectors int, texts ...string) *disk.Disk {
	t.Helper()
	d := made(t, sectors)
	j := lying(t, d)
	for _, s := range texts {
		is(t, "Append", j.Append(s), api.OK)
	}
	return d
}

// P10.1: the store of a journal that tells none, and of one whose transactions have no changes.
func TestOpenOfNone(t *testing.T) {
	for _, texts := range [][]string{nil, {"l\x00"}, {"l\x00", "l\x00", "l\x00"}} {
		s := opened(t, written(t, 8, texts...))
		has(t, s, nil)
		hasNot(t, s, "", "a", "l\x00")
		for _, prefix := range []string{"", "a"} {
			if l := s.Keys(prefix); len(l) != 0 {
				t.Errorf("%q", l)
			}
		}
	}
}

// P10.1: transactions' texts, as bytes, make a store, one behind the other, and each one's changes too.
func TestOpen(t *testing.T) {
	for name, x := range map[string]struct {
		texts []string
		want  words
	}{
		"one key":                    {[]string{"l\x01l\x02s\x00\x01ay"}, words{"a": "y"}},
		"one that isn't":             {[]string{"l\x01l\x01s\x00\x01a"}, nil},
		"the example":                {[]string{"l\x02l\x02s\x00\x01ai\x00\x00\x00\x00\x00\x00\x00\x01l\x01s\x00\x01a"}, nil},
		"gone, and put":              {[]string{"l\x02l\x01s\x00\x01al\x02s\x00\x01an"}, words{"a": "n"}},
		"put twice":                  {[]string{"l\x02l\x02s\x00\x01ayl\x02s\x00\x01an"}, words{"a": "n"}},
		"put in two":                 {[]string{"l\x01l\x02s\x00\x01ay", "l\x01l\x02s\x00\x01an"}, words{"a": "n"}},
		"gone in the second":         {[]string{"l\x02l\x02s\x00\x01ayl\x02s\x00\x01bn", "l\x01l\x01s\x00\x01a"}, words{"b": "n"}},
		"put in the third":           {[]string{"l\x01l\x02s\x00\x01ay", "l\x01l\x01s\x00\x01a", "l\x00", "l\x01l\x02s\x00\x01al\x00"}, words{"a": "l\x00"}},
		"another is gone":            {[]string{"l\x01l\x02s\x00\x02aby", "l\x03l\x01s\x00\x01al\x01s\x00\x01bl\x01s\x00\x03abc"}, words{"ab": "y"}},
		"an empty key":               {[]string{"l\x01l\x02s\x00\x00s\x00\x00"}, words{"": "s\x00\x00"}},
		"a key of any bytes":         {[]string{"l\x01l\x02s\x00\x03\xff\x00ln"}, words{"\xff\x00l": "n"}},
		"a list of one, under a key": {[]string{"l\x01l\x02s\x00\x01al\x01s\x00\x01b"}, words{"a": "l\x01s\x00\x01b"}},
		"a list like a change":       {[]string{"l\x01l\x02s\x00\x01al\x02s\x00\x01by"}, words{"a": "l\x02s\x00\x01by"}},
		"the deepest value":          {[]string{"l\x01l\x02s\x00\x01a" + strings.Repeat("l\x01", 5) + "l\x00"}, words{"a": strings.Repeat("l\x01", 5) + "l\x00"}},
		"a number below 0":           {[]string{"l\x01l\x02s\x00\x01ai\xff\xff\xff\xff\xff\xff\xff\xfe"}, words{"a": bytesOf(-2)}},
		"a longest list":             {[]string{"l\x01l\x02s\x00\x01al\xff" + strings.Repeat("y", 255)}, words{"a": "l\xff" + strings.Repeat("y", 255)}},
	} {
		s := opened(t, written(t, 64, x.texts...))
		has(t, s, x.want)
		if len(x.want) == 0 {
			hasNot(t, s, "a")
		}
		if t.Failed() {
			t.Fatal(name)
		}
	}
}

// P10.1: 255 changes are a transaction's, all of them.
func TestOpenOfMostChanges(t *testing.T) {
	text, want := "l\xff", words{}
	for i := range 255 {
		text += "l\x02s\x00\x01" + string([]byte{byte(i)}) + bytesOf(i)
		want[string([]byte{byte(i)})] = bytesOf(i)
	}
	has(t, opened(t, written(t, 300, text)), want)
}

// P10.1: what is no transaction's text.
func TestOpenOfOthers(t *testing.T) {
	good := "l\x01l\x02s\x00\x01ay"
	for name, bad := range map[string]string{
		"nothing":                    "",
		"a text":                     "s\x00\x01a",
		"a number":                   "i\x00\x00\x00\x00\x00\x00\x00\x00",
		"a yes":                      "y",
		"a no":                       "n",
		"a list of a yes":            "l\x01y",
		"a list of a text":           "l\x01s\x00\x01a",
		"a list of a key, a value":   "l\x02s\x00\x01ay",
		"a list of an empty list":    "l\x01l\x00",
		"a change of three":          "l\x01l\x03s\x00\x01ayy",
		"a change of three texts":    "l\x01l\x03s\x00\x01as\x00\x01bs\x00\x01c",
		"a key that is a number":     "l\x01l\x02i\x00\x00\x00\x00\x00\x00\x00\x01y",
		"a key that is a yes":        "l\x01l\x02ys\x00\x01a",
		"a key that is a list":       "l\x01l\x02l\x01s\x00\x01ay",
		"a number that is gone":      "l\x01l\x01i\x00\x00\x00\x00\x00\x00\x00\x01",
		"a no that is gone":          "l\x01l\x01n",
		"a list that is gone":        "l\x01l\x01l\x01s\x00\x01a",
		"a good change, a yes":       "l\x02l\x02s\x00\x01ayy",
		"a good change, an empty":    "l\x02l\x02s\x00\x01ayl\x00",
		"a good change, one of 3":    "l\x02l\x02s\x00\x01ayl\x03s\x00\x01ayy",
		"a yes, a good change":       "l\x02yl\x02s\x00\x01ay",
		"a bad one, gone behind it":  "l\x02l\x02yyl\x01s\x00\x01a",
		"a byte more":                good + "\x00",
		"two of them":                good + good,
		"a byte less":                good[:len(good)-1],
		"a byte ahead":               " " + good,
		"a change less":              "l\x02l\x02s\x00\x01ay",
		"a change more":              "l\x00l\x02s\x00\x01ay",
		"256 changes":                "l\x00" + strings.Repeat("l\x01s\x00\x00", 256),
		"a value of another kind":    "l\x01l\x02s\x00\x01aY",
		"a value too deep":           "l\x01l\x02s\x00\x01a" + strings.Repeat("l\x01", 6) + "l\x00",
		"a value too deep, of a yes": "l\x01l\x02s\x00\x01a" + strings.Repeat("l\x01", 7) + "y",
		"bytes 0":                    strings.Repeat("\x00", 30),
		"words":                      "put a 1",
	} {
		for _, texts := range [][]string{{bad}, {bad, good}, {good, bad}, {good, bad, good}, {good, good, bad}, {"l\x00", bad}} {
			d := written(t, 64, texts...)
			j := lying(t, d)
			untouched(t, d, func() {
				if s, e := store.Open(j); s != nil || e != api.ErrCorrupt {
					t.Errorf("%s, in %d: %d", name, len(texts), e)
				}
			})
		}
	}
}

// P10.1: a journal that was made anew of none tells an empty text, which is no transaction's.
func TestOpenOfAnewOfNone(t *testing.T) {
	j := lying(t, made(t, 8))
	is(t, "Anew", j.Anew(nil), api.OK)
	if s, e := store.Open(j); s != nil || e != api.ErrCorrupt {
		t.Error(e)
	}
}

// P10.1: only what the journal tells counts: not what lies in its other half.
func TestOpenOfNewerHalf(t *testing.T) {
	d := written(t, 8, "no transaction")
	is(t, "Anew", lying(t, d).Anew([]string{textOf(put("a", 1))}), api.OK)
	has(t, opened(t, d), words{"a": bytesOf(1)})
}

// P10.1: values of all types come as they were put, each of its type.
func TestGet(t *testing.T) {
	d := made(t, 64)
	s := opened(t, d)
	if e := s.Commit(put("int", -7), put("most", math.MaxInt), put("least", math.MinInt), put("text", "t\x00\xff"), put("empty", ""), put("yes", true), put("no", false)); e != api.OK {
		t.Fatal(e)
	}
	if e := s.Commit(put("none", list()), put("nil", []any(nil)), put("list", list(1, list("a", list()), false))); e != api.OK {
		t.Fatal(e)
	}
	for _, s := range []*store.Store{s, opened(t, d)} {
		for key, want := range map[string]any{"int": -7, "most": math.MaxInt, "least": math.MinInt, "text": "t\x00\xff", "empty": "", "yes": true, "no": false} {
			if v, ok := s.Get(key); !ok || v != want {
				t.Errorf("%s: %t, %v", key, ok, v)
			}
		}
		for _, key := range []string{"none", "nil"} {
			v, ok := s.Get(key)
			if l, isList := v.([]any); !ok || !isList || len(l) != 0 {
				t.Errorf("%s: %t, %v", key, ok, v)
			}
		}
		v, _ := s.Get("list")
		if bytesOf(v) != "l\x03i\x00\x00\x00\x00\x00\x00\x00\x01l\x02s\x00\x01al\x00n" {
			t.Errorf("%v", v)
		}
		hasNot(t, s, "", "i", "in", "int ", "Int", "inta", "text\x00", "lis", "list/")
	}
}

// P10.1: keys that begin so, rising by their bytes.
func TestKeys(t *testing.T) {
	d := made(t, 64)
	s := opened(t, d)
	keys := []string{"k/10", "", "k/9", "k", "k/", "\xff\x00", "k/1", "α", "K/1", "k/\x00", "\xff", "k/é", "a/k/1", "k0", "\x00"}
	for _, key := range keys {
		is(t, "Commit", s.Commit(put(key, true)), api.OK)
	}
	for prefix, want := range map[string][]string{
		"":         {"", "\x00", "K/1", "a/k/1", "k", "k/", "k/\x00", "k/1", "k/10", "k/9", "k/é", "k0", "α", "\xff", "\xff\x00"},
		"k":        {"k", "k/", "k/\x00", "k/1", "k/10", "k/9", "k/é", "k0"},
		"k/":       {"k/", "k/\x00", "k/1", "k/10", "k/9", "k/é"},
		"k/1":      {"k/1", "k/10"},
		"k/10":     {"k/10"},
		"k/100":    nil,
		"k/\xc3":   {"k/é"},
		"K":        {"K/1"},
		"1":        nil,
		"/":        nil,
		"\x00":     {"\x00"},
		"\x00\x00": nil,
		"\xff":     {"\xff", "\xff\x00"},
		"\xce":     {"α"},
	} {
		for _, s := range []*store.Store{s, opened(t, d)} {
			if l := s.Keys(prefix); !slices.Equal(l, want) {
				t.Errorf("%q: %q, not %q", prefix, l, want)
			}
		}
	}
	is(t, "Commit", s.Commit(gone("k/1"), gone(""), put("k/11", 1)), api.OK)
	if l := s.Keys("k/1"); !slices.Equal(l, []string{"k/10", "k/11"}) {
		t.Errorf("%q", l)
	}
}

// P10.1: what only asks changes nothing, and its answers are new memory, lists within lists too.
func TestAnswersAreNew(t *testing.T) {
	d := made(t, 64)
	s := opened(t, d)
	is(t, "Commit", s.Commit(put("a", list(1, list(2, list("three")), list())), put("b", 4)), api.OK)
	want := words{"a": "l\x03" + bytesOf(1) + "l\x02" + bytesOf(2) + "l\x01s\x00\x05threel\x00", "b": bytesOf(4)}
	for _, s := range []*store.Store{s, opened(t, d)} {
		untouched(t, d, func() {
			for range 2 {
				v, _ := s.Get("a")
				l := v.([]any)
				l[1].([]any)[1].([]any)[0] = "other"
				l[1].([]any)[0] = "other"
				_ = append(l[2].([]any), "other")
				l[0] = "other"
				keys := s.Keys("")
				keys[0] = "other"
				_ = append(keys[:1], "other")
				has(t, s, want)
			}
		})
	}
}

// P10.1: stores of two disks are apart, and two that are opened of one disk share no memory.
func TestApart(t *testing.T) {
	d, other := made(t, 8), made(t, 8)
	s, o := opened(t, d), opened(t, other)
	is(t, "Commit", s.Commit(put("a", list(1))), api.OK)
	is(t, "Commit", o.Commit(put("b", list(2))), api.OK)
	has(t, s, words{"a": bytesOf(list(1))})
	has(t, o, words{"b": bytesOf(list(2))})
	j := lying(t, d)
	p, _ := store.Open(j)
	q, _ := store.Open(j)
	is(t, "Commit", p.Commit(gone("a")), api.OK)
	has(t, p, nil)
	has(t, q, words{"a": bytesOf(list(1))})
}
