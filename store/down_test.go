package store_test

import (
	"testing"

	"keyloft/api"
	"keyloft/disk"
	"keyloft/store"
)

// dead: a store is empty, and what isn't refused ahead of it is answered with ErrDown, whatever lies on the disk.
func dead(t *testing.T, d *disk.Disk, s *store.Store) {
	t.Helper()
	image := d.Image()
	for range 2 {
		has(t, s, nil)
		hasNot(t, s, "a", "b", "c", "")
		is(t, "Commit of nothing", s.Commit(), api.ErrDown)
		is(t, "Commit", s.Commit(put("c", 1)), api.ErrDown)
		is(t, "Commit of what goes", s.Commit(gone("a")), api.ErrDown)
		is(t, "Compact", s.Compact(), api.ErrDown)
		is(t, "Commit of no value", s.Commit(put("c", nil)), api.ErrType)
		is(t, "Commit of too much", s.Commit(most(256, gone("a"))...), api.ErrLong)
	}
	if d.Image() != image {
		t.Error("the disk is touched")
	}
}

// calls: those that may find the power off, with what they make of a 1, b 2.
func calls() map[string]struct {
	to   func(*store.Store) api.Errno
	want words
} {
	long := put("a", repeated(70))
	was := words{"a": bytesOf(1), "b": bytesOf(2)}
	return map[string]struct {
		to   func(*store.Store) api.Errno
		want words
	}{
		"Commit":               {func(s *store.Store) api.Errno { return s.Commit(put("b", 3), gone("a")) }, words{"b": bytesOf(3)}},
		"Commit of nothing":    {func(s *store.Store) api.Errno { return s.Commit() }, was},
		"Commit without room":  {func(s *store.Store) api.Errno { return s.Commit(long) }, was.behind(long)},
		"Commit of what goes":  {func(s *store.Store) api.Errno { return s.Commit(gone("a"), gone("b"), gone(repeated(60))) }, nil},
		"Compact":              {(*store.Store).Compact, was},
		"Compact behind a Get": {func(s *store.Store) api.Errno { s.Get("a"); return s.Compact() }, was},
	}
}

// P10.2: where the power is off: the store is empty till it is opened again, also where it is back.
func TestOff(t *testing.T) {
	for name, call := range calls() {
		d := made(t, 8)
		s := opened(t, d)
		is(t, "Commit", s.Commit(put("a", 1), put("b", 2)), api.OK)
		is(t, "Commit", s.Commit(), api.OK)
		d.Crash(0, 0)
		has(t, s, words{"a": bytesOf(1), "b": bytesOf(2)})
		is(t, name, call.to(s), api.ErrDown)
		dead(t, d, s)
		d.Start()
		dead(t, d, s)
		again := opened(t, d)
		has(t, again, words{"a": bytesOf(1), "b": bytesOf(2)})
		is(t, name, call.to(again), api.OK)
		has(t, opened(t, d), call.want)
		dead(t, d, s)
	}
}

// P10.2, P10.3: where the power fails in any write or flush, it is the same; opened again, it has what it had, or what it was to have.
func TestFails(t *testing.T) {
	was := words{"a": bytesOf(1), "b": bytesOf(2)}
	for name, call := range calls() {
		at := 1
		for ; ; at++ {
			failed := false
			for keep := range uint64(8) {
				for _, torn := range []int{0, 30, 63, 64} {
					d := made(t, 8)
					s := opened(t, d)
					is(t, "Commit", s.Commit(put("a", 1), put("b", 2)), api.OK)
					is(t, "Commit", s.Commit(), api.OK)
					d.Arm(api.Cut{At: at, Keep: keep, Torn: torn})
					e := call.to(s)
					failed = d.Down()
					if !failed {
						is(t, name, e, api.OK)
						has(t, s, call.want)
						continue
					}
					is(t, name, e, api.ErrDown)
					dead(t, d, s)
					d.Start()
					again := opened(t, d)
					if len(again.Keys("")) != 2 || bytesUnder(again, "b") != was["b"] || bytesUnder(again, "a") != was["a"] {
						has(t, again, call.want)
					}
				}
			}
			if t.Failed() {
				t.Fatal(name, at)
			}
			if !failed {
				break
			}
		}
		if at < 4 {
			t.Error(name, "failed at so few places:", at)
		}
	}
}

// bytesUnder: what stands under a key, as bytes.
func bytesUnder(s *store.Store, key string) string {
	v, ok := s.Get(key)
	if !ok {
		return ""
	}
	return bytesOf(v)
}

// P10.2: what is refused ahead of ErrDown changes nothing, so that the store goes on once the power is back.
func TestRefusedWhereOff(t *testing.T) {
	d := made(t, 8)
	s := opened(t, d)
	is(t, "Commit", s.Commit(put("a", 1)), api.OK)
	d.Crash(0, 0)
	is(t, "Commit", s.Commit(put("b", nil)), api.ErrType)
	is(t, "Commit", s.Commit(put("b", repeated(65536))), api.ErrLong)
	is(t, "Commit", s.Commit(put("b", repeated(300))), api.ErrFull)
	has(t, s, words{"a": bytesOf(1)})
	d.Start()
	is(t, "Commit", s.Commit(put("b", 2)), api.OK)
	has(t, opened(t, d), words{"a": bytesOf(1), "b": bytesOf(2)})
}
