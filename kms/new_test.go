package kms_test

import (
	"slices"
	"testing"

	"keyloft/api"
	"keyloft/kms"
	"keyloft/value"
)

// P15.1: a new service has its first domain, its time and its count, in one transaction, in this order.
func TestNew(t *testing.T) {
	for _, root := range []string{repeated(32, "root"), repeated(32, "\x00"), repeated(32, "\xff\x00"), repeated(32, "ω")} {
		for _, draw := range []string{"", "draw", "\x00", repeated(32, "d"), repeated(70000, "long")} {
			k, e := kms.New(root, draw)
			if k == nil || e != api.OK {
				t.Fatalf("%q: %d", root, e)
			}
			wrapped := wrappedOf(root, "d\x00\x00\x00\x01", keyOf("domain", draw, "\x00\x00\x00\x01"))
			want := bytesOf([]any{[]any{"d", 1}, []any{"d/1", wrapped}, []any{"t", 0}, []any{"n", 0}})
			if l := texts(k.Image()); !slices.Equal(l, []string{want}) {
				t.Errorf("%q", l)
			}
			if len(k.Image()) != 65536 {
				t.Error("sectors:", len(k.Image()))
			}
			b := &beside{t, k, serviceOf(root, draw)}
			b.same()
		}
	}
}

// P15.1: a root of another length makes no service.
func TestWrongRoots(t *testing.T) {
	for n := range 100 {
		k, e := kms.New(repeated(n, "r"), "draw")
		if n != 32 && (k != nil || e != api.ErrForm) {
			t.Errorf("%d bytes: %v, %d", n, k != nil, e)
		}
	}
	for _, n := range []int{288, 512 + 32, 65536, 65536 + 32} {
		if k, e := kms.New(repeated(n, "r"), "draw"); k != nil || e != api.ErrForm {
			t.Errorf("%d bytes: %v, %d", n, k != nil, e)
		}
	}
}

// P15.1: Keys and Get are the store's, with the keys that the chapter names, and what they answer is new memory.
func TestKeysAndGet(t *testing.T) {
	b := begun(t)
	b.ok(creating("ann"))
	b.ok(creating("bob"))
	b.ok(turning("second"))
	b.ok(aliasing("ann", "k1", "first"))
	for _, n := range []int{1, 42, 999, 1000, 9999, 10000, 1<<31 - 1} {
		b.ok(granting("ann", "k1", granted(n, 1)))
	}
	for prefix, want := range map[string][]string{
		"":         {"a/first", "d", "d/1", "d/2", "g/k1/0001", "g/k1/0042", "g/k1/0999", "g/k1/1000", "g/k1/10000", "g/k1/2147483647", "g/k1/9999", "k/k1", "k/k2", "n", "t"},
		"d":        {"d", "d/1", "d/2"},
		"d/":       {"d/1", "d/2"},
		"k/":       {"k/k1", "k/k2"},
		"k/k2":     {"k/k2"},
		"g/k1/00":  {"g/k1/0001", "g/k1/0042"},
		"g/k2/":    nil,
		"k/k1/":    nil,
		"\xff":     nil,
		"a/firsts": nil,
	} {
		if l := b.k.Keys(prefix); !slices.Equal(l, want) {
			t.Errorf("%q: %q", prefix, l)
		}
	}
	for _, at := range []string{"", "k1", "k/", "k/k3", "d/0", "d/3", "d/01", "g/k1/1", "g/k1/00042", "a/", "first", "T"} {
		if v, ok := b.k.Get(at); v != nil || ok {
			t.Errorf("%q: %v", at, v)
		}
	}
	v, _ := b.k.Get("k/k1")
	v.([]any)[0] = "eve"
	v.([]any)[1].([]any)[0] = 4
	b.k.Keys("")[0] = "x"
	b.same()
}

// P15.1: what the chapter says lies there, of an ordinary key, told once more by hand.
func TestKeyByHand(t *testing.T) {
	b := begun(t)
	b.ok(creating("ann"))
	b.ok(turning("second"))
	b.ok(rotating("ann", "k1", "more"))
	b.ok(ticking(6))
	b.ok(eventing("ann", "k1", 6, 300))
	b.ok(eventing("ann", "k1", 3, 4))
	b.ok(granting("ann", "k1", granted(7, 5)))
	first := wrappedOf(keyOf("domain", "the first draw", "\x00\x00\x00\x01"), "bk1\x01", keyOf("backing", "draw of ann", "k1\x01"))
	more := wrappedOf(keyOf("domain", "second", "\x00\x00\x00\x02"), "bk1\x02", keyOf("backing", "more", "k1\x02"))
	for at, want := range map[string]any{
		"k/k1":      []any{"ann", []any{3, 10, 300, 2}, []any{[]any{1, first}, []any{2, more}}},
		"g/k1/0007": []any{7, "bob", "cy", 5, "", false},
		"t":         6,
		"n":         1,
		"d":         2,
	} {
		if v, ok := b.k.Get(at); !ok || !value.Same(v, want) {
			t.Errorf("%q: %.300q", at, v)
		}
	}
}

// P15.1: each request that changes something is one transaction, of just what changes; one that is refused, or only asks, is none.
func TestTransactions(t *testing.T) {
	b := begun(t)
	b.ok(creating("ann"))
	sealed := b.ok(encrypting("ann", "k1", "text"))
	for i, x := range []struct {
		r    kms.Req
		e    api.Errno
		puts []string
		gone string
	}{
		{creating("bob"), api.OK, []string{"k/k2", "n"}, ""},
		{creating("Bob"), api.ErrForm, nil, ""},
		{encrypting("ann", "k1", "text"), api.OK, nil, ""},
		{decrypting("ann", sealed), api.OK, nil, ""},
		{decrypting("bob", sealed), api.ErrDenied, nil, ""},
		{making("ann", "k1", "draw"), api.OK, nil, ""},
		{eventing("ann", "k1", 2, 0), api.OK, []string{"k/k1"}, ""},
		{eventing("ann", "k1", 2, 0), api.ErrState, nil, ""},
		{eventing("ann", "k1", 1, 0), api.OK, []string{"k/k1"}, ""},
		{rotating("ann", "k1", "draw"), api.OK, []string{"k/k1"}, ""},
		{aliasing("ann", "k1", "one"), api.OK, []string{"a/one"}, ""},
		{aliasing("ann", "k1", "one"), api.ErrExists, nil, ""},
		{unaliasing("ann", "one"), api.OK, nil, "a/one"},
		{granting("ann", "k1", granted(3, 1)), api.OK, []string{"g/k1/0003"}, ""},
		{ungranting("bob", "k1", 3), api.ErrDenied, nil, ""},
		{ungranting("ann", "k1", 3), api.OK, nil, "g/k1/0003"},
		{turning("draw"), api.OK, []string{"d", "d/2"}, ""},
		{rewrapping("ann", "k1"), api.OK, []string{"k/k1"}, ""},
		{ticking(1), api.OK, []string{"t"}, ""},
		{ticking(0), api.ErrRange, nil, ""},
		{kms.Req{Kind: 15}, api.ErrKind, nil, ""},
	} {
		ahead := texts(b.k.Image())
		b.does(x.r, x.e)
		behind := texts(b.k.Image())
		var changes []any
		for _, at := range x.puts {
			v, _ := b.k.Get(at)
			changes = append(changes, []any{at, v})
		}
		if x.gone != "" {
			changes = append(changes, []any{x.gone})
		}
		if changes == nil {
			if !slices.Equal(behind, ahead) {
				t.Errorf("%d: %.300q", i, behind)
			}
			continue
		}
		if n := len(ahead); len(behind) != n+1 || !slices.Equal(behind[:n], ahead) || !isRowOf(behind[n], changes) {
			t.Errorf("%d: %.300q", i, behind)
		}
	}
}

// isRowOf: is it the text of a transaction of these changes, in whatever order?
func isRowOf(text string, changes []any) bool {
	v, e := value.Parse(text)
	l, _ := value.List(v)
	for _, c := range changes {
		if !slices.ContainsFunc(l, func(x any) bool { return value.Same(x, c) }) {
			return false
		}
	}
	return e == api.OK && len(l) == len(changes)
}

// P15.1: the chapter's example.
func TestExample(t *testing.T) {
	b := begun(t)
	if id := b.ok(creating("ann")); id != "k1" {
		t.Error(id)
	}
	b.does(encrypting("bob", "k1", "text"), api.ErrDenied)
}

// P15.1: services know nothing of one another.
func TestApart(t *testing.T) {
	a, b := begun(t), begun(t)
	a.ok(creating("ann"))
	b.does(encrypting("ann", "k1", "text"), api.ErrNone)
	b.ok(creating("bob"))
	sealed := a.ok(encrypting("ann", "k1", "text", pairs("a", "1")...))
	b.does(decrypting("bob", sealed, pairs("a", "1")...), api.ErrCorrupt)
	a.k.Crash(0, 0)
	a.same()
	b.same()
}
