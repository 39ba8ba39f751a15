package journal_test

import (
	"math"
	"strings"
	"testing"

	"keyloft/api"
	"keyloft/disk"
	"keyloft/journal"
)

// dead: a journal tells none, and both calls answer ErrDown, whatever they are handed, without touching the disk.
func dead(t *testing.T, d *disk.Disk, j *journal.Journal) {
	t.Helper()
	image := d.Image()
	d.Arm(api.Cut{At: 1, Keep: math.MaxUint64, Torn: 64})
	down := d.Down()
	for range 2 {
		tells(t, j)
		for _, s := range []string{"", "a", strings.Repeat("a", 14), strings.Repeat("a", 70000)} {
			is(t, "Append", j.Append(s), api.ErrDown)
			is(t, "Anew", j.Anew([]string{s}), api.ErrDown)
		}
		is(t, "Anew", j.Anew(nil), api.ErrDown)
		if want := min(32*d.Size()-50, 65535); j.Room() != want {
			t.Errorf("room %d, not %d", j.Room(), want)
		}
	}
	if d.Down() != down || d.Image() != image {
		t.Error("the disk is touched")
	}
	d.Arm(api.Cut{})
}

// P9.2: where the power is off both answer ErrDown, also where it is back, until the journal is opened again.
func TestOff(t *testing.T) {
	calls := map[string]func(*journal.Journal) api.Errno{
		"Append": func(j *journal.Journal) api.Errno { return j.Append("c") },
		"Anew":   func(j *journal.Journal) api.Errno { return j.Anew([]string{"c"}) },
		"none":   func(j *journal.Journal) api.Errno { return j.Anew(nil) },
	}
	for name, call := range calls {
		for _, texts := range [][]string{nil, {"a", "b"}} {
			d := made(t, 8, "", allLaid(2, texts...))
			j := open(t, d)
			d.Crash(0, 0)
			is(t, name, call(j), api.ErrDown)
			dead(t, d, j)
			d.Start()
			dead(t, d, j)
			looks(t, d, "", allLaid(2, texts...))
			again := open(t, d)
			tells(t, again, texts...)
			is(t, "Append", again.Append("d"), api.OK)
			opened(t, d, append(texts[:len(texts):len(texts)], "d")...)
			dead(t, d, j)
		}
	}
}

// P9.2: where the power fails in any write or flush, it is the same.
func TestFails(t *testing.T) {
	for name, x := range map[string]struct {
		call func(*journal.Journal) api.Errno
		last int // the number of its last write or flush
	}{
		"Append of one sector":  {func(j *journal.Journal) api.Errno { return j.Append("c") }, 4},
		"Append of two sectors": {func(j *journal.Journal) api.Errno { return j.Append(strings.Repeat("c", 20)) }, 4},
		"Anew":                  {func(j *journal.Journal) api.Errno { return j.Anew([]string{strings.Repeat("c", 20), "d"}) }, 10},
		"Anew of none":          {func(j *journal.Journal) api.Errno { return j.Anew(nil) }, 6},
	} {
		for at := 1; at <= x.last+1; at++ {
			d := made(t, 8, allLaid(2, "a", "b"), "")
			j := open(t, d)
			d.Arm(api.Cut{At: at, Keep: uint64(at % 3), Torn: 20})
			e := x.call(j)
			if at > x.last {
				is(t, name, e, api.OK)
				if d.Down() {
					t.Error("more writes and flushes than there are")
				}
				continue
			}
			is(t, name, e, api.ErrDown)
			dead(t, d, j)
			d.Start()
			dead(t, d, j)
			open(t, d)
			if t.Failed() {
				t.Fatalf("%s, failing at %d", name, at)
			}
		}
	}
}

// P9.2: ErrRange and ErrFull go ahead where the power is off; they change nothing, so that the journal goes on once it is back.
func TestRefusedWhereOff(t *testing.T) {
	d := made(t, 8, laid(1<<40-1, 0, "a"), "")
	j := open(t, d)
	for range 2 {
		d.Crash(0, 0)
		is(t, "Append", j.Append(strings.Repeat("x", 143)), api.ErrFull)
		is(t, "Anew", j.Anew(make([]string, 5)), api.ErrFull)
		is(t, "Anew", j.Anew([]string{strings.Repeat("x", 65536)}), api.ErrFull)
		tells(t, j, "a")
		d.Start()
	}
	is(t, "Append", j.Append("b"), api.OK)
	tells(t, j, "a", "b")
	is(t, "Anew", j.Anew([]string{"c"}), api.OK)
	d.Crash(0, 0)
	is(t, "Anew", j.Anew(make([]string, 5)), api.ErrRange)
	is(t, "Anew", j.Anew(nil), api.ErrRange)
	tells(t, j, "c")
	is(t, "Append", j.Append("d"), api.ErrDown)
	dead(t, d, j)
	d.Start()
	dead(t, d, j)
	opened(t, d, "c")
}
