package store_test

import (
	"maps"
	"math"
	"strconv"
	"testing"

	"keyloft/api"
	"keyloft/disk"
	"keyloft/journal"
	"keyloft/store"
)

// drawnValue: at most so many lists within one another.
func drawnValue(draw func(int) int, lists int) any {
	switch kind := draw(6); {
	case kind == 0:
		return draw(1<<30) - 1<<29
	case kind == 1:
		return draw(2) == 0
	case kind > 3 && lists > 0:
		l := make([]any, draw(4))
		for i := range l {
			l[i] = drawnValue(draw, lists-1)
		}
		return l
	}
	return repeated(draw(30))
}

// drawnChanges: of few keys, so that they meet.
func drawnChanges(draw func(int) int, keys int) []store.Change {
	l := make([]store.Change, draw(5))
	if draw(8) == 0 {
		l = make([]store.Change, draw(40))
	}
	for i := range l {
		key := "k/" + strconv.Itoa(draw(keys))
		if draw(3) == 0 {
			l[i] = gone(key)
		} else {
			l[i] = put(key, drawnValue(draw, draw(7)))
		}
	}
	return l
}

// beside: a disk with a store, and one beside it on which the same is done by the chapter's words.
type beside struct {
	d, by *disk.Disk
	s     *store.Store
	j     *journal.Journal
	w     words
}

// does: the same on both disks, changes or a Compact; it answers what was there ahead of it, what was to be behind it, and how it ended.
func (b *beside) does(t *testing.T, compact bool, changes []store.Change) (was, next words, e api.Errno) {
	t.Helper()
	was, next = b.w, b.w
	if compact {
		b.w, e = b.w.compacted(b.j)
		is(t, "Compact", b.s.Compact(), e)
	} else {
		next = b.w.behind(changes...)
		b.w, e = b.w.committed(b.j, changes...)
		is(t, "Commit", b.s.Commit(changes...), e)
	}
	if b.d.Image() != b.by.Image() || b.d.Down() != b.by.Down() {
		t.Error("other writes and flushes than the chapter's")
	}
	has(t, b.s, b.w)
	return was, next, e
}

// arm: both disks.
func (b *beside) arm(c api.Cut) {
	b.d.Arm(c)
	b.by.Arm(c)
}

// again: the power is on, and both are opened: the store has what it had, or what it was to have.
func (b *beside) again(t *testing.T, was, next words) {
	t.Helper()
	b.d.Start()
	b.by.Start()
	b.s, b.j, b.w = opened(t, b.d), lying(t, b.by), was
	if !same(b.s, was) {
		b.w = next
	}
	has(t, b.s, b.w)
}

// same: has a store just this?
func same(s *store.Store, w words) bool {
	now := words{}
	for _, key := range s.Keys("") {
		now[key] = bytesUnder(s, key)
	}
	return maps.Equal(now, w)
}

// P10.1, P10.2, P10.3: changes without a pattern, with failures among them, against the chapter's words; behind each failure the store is opened again and goes on.
func TestDrawnChanges(t *testing.T) {
	draw := mixer(1)
	var ends [16]int
	for round := range 150 {
		sectors, keys := 8+2*draw(30), 1+draw(50)
		b := beside{d: made(t, sectors), by: made(t, sectors)}
		b.s, b.j = opened(t, b.d), lying(t, b.by)
		for range 80 {
			if draw(4) == 0 {
				b.arm(api.Cut{At: 1 + draw(12), Keep: uint64(draw(1 << 12)), Torn: draw(65)})
			}
			was, next, e := b.does(t, draw(10) == 0, drawnChanges(draw, keys))
			ends[e]++
			if e == api.ErrDown {
				b.again(t, was, next)
			} else if draw(10) == 0 {
				b.s = opened(t, b.d)
				has(t, b.s, b.w)
			}
			if t.Failed() {
				t.Fatalf("round %d", round)
			}
		}
	}
	if ends[api.OK] < 1000 || ends[api.ErrDown] < 1000 || ends[api.ErrFull] < 300 {
		t.Error("too few of one:", ends)
	}
}

// P10.3: the power fails in each write and flush of a long change, made anew or not, and of a Compact; the store has all of it, or none.
func TestEachFailure(t *testing.T) {
	var many []store.Change
	for i := range 40 {
		many = append(many, put("k"+strconv.Itoa(i), list(i, repeated(20))))
	}
	for name, x := range map[string]struct {
		ahead   []store.Change
		times   int
		compact bool
		changes []store.Change
	}{
		"appended, as the first":   {nil, 0, false, many},
		"appended":                 {many[:20], 1, false, many[15:]},
		"without room":             {many, 2, false, many[10:30]},
		"what goes, without room":  {many, 2, false, append(most(30, gone("k1")), gone("k2"), put("k3", repeated(300)))},
		"compacted":                {many, 2, true, nil},
		"compacted, of no key":     {nil, 1, true, nil},
		"compacted, of a new disk": {nil, 0, true, nil},
	} {
		failed := true
		at := 1
		for ; failed; at++ {
			for _, keep := range []uint64{0, 1, 2, 5, 1 << 20, math.MaxUint64} {
				b := beside{d: made(t, 120), by: made(t, 120)}
				b.s, b.j = opened(t, b.d), lying(t, b.by)
				for range x.times {
					_, _, e := b.does(t, false, x.ahead)
					is(t, "Commit", e, api.OK)
				}
				b.arm(api.Cut{At: at, Keep: keep, Torn: at % 65})
				was, next, e := b.does(t, x.compact, x.changes)
				if failed = e != api.OK; failed {
					is(t, name, e, api.ErrDown)
					b.again(t, was, next)
				}
			}
			if t.Failed() {
				t.Fatal(name, at)
			}
		}
		if at < 5 {
			t.Error(name, "failed at so few places:", at)
		}
	}
}

// P10.3: a change fails again and again, each time at the next place, and is done in the end.
func TestFailsAgainAndAgain(t *testing.T) {
	for _, keep := range []uint64{0, 1, 3, math.MaxUint64} {
		d := made(t, 8)
		s := opened(t, d)
		is(t, "Commit", s.Commit(put("a", repeated(100)), put("b", 1)), api.OK)
		was, next := words{"a": bytesOf(repeated(100)), "b": bytesOf(1)}, words{"a": bytesOf(repeated(100)), "b": bytesOf(2), "c": "y"}
		for at := 1; !same(s, next); at++ {
			has(t, s, was)
			d.Arm(api.Cut{At: at, Keep: keep, Torn: 30 * (at % 3)})
			if s.Commit(put("b", 2), put("c", true)) == api.OK {
				d.Arm(api.Cut{})
			}
			d.Start()
			s = opened(t, d)
			if t.Failed() || at > 30 {
				t.Fatal(at, keep)
			}
		}
	}
}
