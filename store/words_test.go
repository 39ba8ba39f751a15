package store_test

import (
	"encoding/binary"
	"maps"
	"slices"
	"strings"
	"testing"

	"keyloft/api"
	"keyloft/disk"
	"keyloft/journal"
	"keyloft/store"
)

// mixer: numbers without a pattern, the same in each run.
func mixer(seed uint64) func(below int) int {
	return func(below int) int {
		seed = seed*6364136223846793005 + 1442695040888963407
		return int(seed >> 33 % uint64(below))
	}
}

// list: a value that is one of these.
func list(l ...any) []any { return l }

// nested: so many lists within one another, the innermost one with a value.
func nested(n int, v any) any {
	for range n {
		v = list(v)
	}
	return v
}

// put, gone: changes.
func put(key string, v any) store.Change { return store.Change{Key: key, Value: v} }
func gone(key string) store.Change       { return store.Change{Key: key, Gone: true} }

// bytesOf: a value's bytes, by layer 7's words.
func bytesOf(v any) string {
	switch x := v.(type) {
	case int:
		return "i" + string(binary.BigEndian.AppendUint64(nil, uint64(x)))
	case string:
		return "s" + string(binary.BigEndian.AppendUint16(nil, uint16(len(x)))) + x
	case bool:
		return map[bool]string{true: "y", false: "n"}[x]
	case []any:
		out := "l" + string([]byte{byte(len(x))})
		for _, v := range x {
			out += bytesOf(v)
		}
		return out
	}
	panic("no value")
}

// textOf: a transaction's text, by the chapter's words.
func textOf(l ...store.Change) string {
	out := "l" + string([]byte{byte(len(l))})
	for _, c := range l {
		if c.Gone {
			out += "l\x01" + bytesOf(c.Key)
		} else {
			out += "l\x02" + bytesOf(c.Key) + bytesOf(c.Value)
		}
	}
	return out
}

// words: what stands in a store, by the chapter's words: keys, and their values' bytes.
type words map[string]string

// behind: what stands there behind changes.
func (w words) behind(l ...store.Change) words {
	out := maps.Clone(w)
	if out == nil {
		out = words{}
	}
	for _, c := range l {
		if c.Gone {
			delete(out, c.Key)
		} else {
			out[c.Key] = bytesOf(c.Value)
		}
	}
	return out
}

// keys: rising.
func (w words) keys() []string { return slices.Sorted(maps.Keys(w)) }

// anew: the texts of the transactions of which a journal is made anew.
func (w words) anew() []string {
	var texts []string
	keys := w.keys()
	for first := true; first || len(keys) > 0; first = false {
		n := min(16, len(keys))
		text := "l" + string([]byte{byte(n)})
		for _, key := range keys[:n] {
			text += "l\x02" + bytesOf(key) + w[key]
		}
		texts = append(texts, text)
		keys = keys[n:]
	}
	return texts
}

// committed: to a journal, by the chapter's words, changes that may be printed; and what stands there behind it.
func (w words) committed(j *journal.Journal, l ...store.Change) (words, api.Errno) {
	behind := w.behind(l...)
	e := j.Append(textOf(l...))
	if e == api.ErrFull {
		e = j.Anew(behind.anew())
	}
	return w.turned(behind, e)
}

// compacted: a journal, by the chapter's words.
func (w words) compacted(j *journal.Journal) (words, api.Errno) { return w.turned(w, j.Anew(w.anew())) }

// turned: what stands there behind a journal's answer.
func (w words) turned(behind words, e api.Errno) (words, api.Errno) {
	switch e {
	case api.OK:
		return behind, e
	case api.ErrDown:
		return nil, e
	}
	return w, e
}

// has: a store has just this.
func has(t *testing.T, s *store.Store, w words) {
	t.Helper()
	if keys := s.Keys(""); !slices.Equal(keys, w.keys()) {
		t.Errorf("keys %.300q, not %.300q", keys, w.keys())
		return
	}
	for key, bytes := range w {
		if v, ok := s.Get(key); !ok || bytesOf(v) != bytes {
			t.Errorf("under %.80q: %t, %.80q, not %.80q", key, ok, bytesOf(v), bytes)
		}
	}
}

// hasNot: nothing stands under these keys.
func hasNot(t *testing.T, s *store.Store, keys ...string) {
	t.Helper()
	for _, key := range keys {
		if v, ok := s.Get(key); ok || v != nil {
			t.Errorf("under %.80q: %t, %.80v", key, ok, v)
		}
	}
}

// made: a disk.
func made(t *testing.T, sectors int) *disk.Disk {
	t.Helper()
	d, e := disk.New(sectors)
	if e != api.OK {
		t.Fatal(e)
	}
	return d
}

// lying: a disk's journal, opened now.
func lying(t *testing.T, d *disk.Disk) *journal.Journal {
	t.Helper()
	j, e := journal.Open(d)
	if e != api.OK {
		t.Fatal(e)
	}
	return j
}

// opened: a disk's store, opened now.
func opened(t *testing.T, d *disk.Disk) *store.Store {
	t.Helper()
	s, e := store.Open(lying(t, d))
	if s == nil || e != api.OK {
		t.Fatalf("Open: %d", e)
	}
	return s
}

// is: a call's error is the wanted one.
func is(t *testing.T, what string, e, want api.Errno) {
	t.Helper()
	if e != want {
		t.Errorf("%s: %d, not %d", what, e, want)
	}
}

// short: texts, or how they begin.
func short(l []string) []string {
	out := slices.Clone(l)
	for i, s := range out {
		if len(s) > 40 {
			out[i] = s[:40] + ".."
		}
	}
	return out
}

// lies: a disk's journal tells these texts.
func lies(t *testing.T, d *disk.Disk, texts ...string) {
	t.Helper()
	if l := lying(t, d).Texts(); !slices.Equal(l, texts) {
		t.Errorf("%d texts, %q, not %d, %q", len(l), short(l), len(texts), short(texts))
	}
}

// untouched: what is done leaves a disk as it is, and writes and flushes nothing.
func untouched(t *testing.T, d *disk.Disk, do func()) {
	t.Helper()
	image := d.Image()
	d.Arm(api.Cut{At: 1})
	do()
	if d.Down() || d.Image() != image {
		t.Error("the disk is touched")
	}
	d.Start()
	d.Arm(api.Cut{})
}

// repeated: a text of so many bytes.
func repeated(n int) string { return strings.Repeat("x", n) }
