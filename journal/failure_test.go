package journal_test

import (
	"math"
	"slices"
	"strconv"
	"strings"
	"testing"

	"keyloft/api"
	"keyloft/disk"
	"keyloft/journal"
)

// change: an Append or an Anew.
type change struct {
	anew  bool
	texts []string // of an Append one
}

// to: a journal, changed.
func (c change) to(j *journal.Journal) api.Errno {
	if c.anew {
		return j.Anew(c.texts)
	}
	return j.Append(c.texts[0])
}

// words: the calls by the chapter's words, and what is told behind them; an error, if it is refused.
func (c change) words(size int, w told) ([]call, told, api.Errno) {
	switch {
	case c.anew && w.generation == 1<<40:
		return nil, w, api.ErrRange
	case c.anew && !goes(size, c.texts) || !c.anew && len(c.texts[0]) > room(size, w):
		return nil, w, api.ErrFull
	case c.anew:
		calls, next := anews(size, w, c.texts)
		return calls, next, api.OK
	}
	calls, next := appends(size, w, c.texts[0])
	return calls, next, api.OK
}

// fails: a change of such a disk while the power fails: it leaves just what the words' calls leave, and what is opened then is what was told, or what was to be told. It answers whether the power failed.
func fails(t *testing.T, sectors int, first, second string, c change, cut api.Cut) bool {
	t.Helper()
	d, by := made(t, sectors, first, second), made(t, sectors, first, second)
	was := wordsOfAll(by.Image())
	calls, next, e := c.words(sectors/2, was)
	if e != api.OK {
		t.Fatal("such a change is refused")
	}
	j := open(t, d)
	d.Arm(cut)
	by.Arm(cut)
	e = does(by, calls)
	is(t, "a change", c.to(j), e)
	if d.Image() != by.Image() || d.Down() != by.Down() {
		t.Errorf("%v: other writes and flushes than the chapter's", cut)
	}
	d.Start()
	again := open(t, d).Texts()
	if !slices.Equal(again, next.texts) && (e == api.OK || !slices.Equal(again, was.texts)) {
		t.Errorf("%v: opened again it tells %q, neither %q nor %q", cut, short(again), short(was.texts), short(next.texts))
	}
	if w := wordsOfAll(d.Image()); !slices.Equal(again, w.texts) {
		t.Errorf("%v: opened again it tells %q, not %q", cut, short(again), short(w.texts))
	}
	return e == api.ErrDown
}

// changes: small ones, on small disks.
func changes() map[string]struct {
	first, second string
	c             change
} {
	t100 := strings.Repeat("t", 100)
	old := allLaid(3, "0", "1", "2", "3")
	return map[string]struct {
		first, second string
		c             change
	}{
		"first":                 {"", "", change{false, []string{"a"}}},
		"first over old":        {old[64:], old[64:], change{false, []string{t100}}},
		"behind one":            {laid(3, 0, "a"), "", change{false, []string{"b"}}},
		"behind one, in second": {laid(2, 0, "a"), laid(3, 0, "b"), change{false, []string{t100[:70]}}},
		"over old":              {laid(3, 0, "a") + strings.Repeat("z", 64) + old[128:], old[64:], change{false, []string{"c"}}},
		"over old, longer":      {laid(4, 0, "a") + laid(4, 2, "b") + old[128:], old[:128], change{false, []string{t100[:20]}}},
		"to the end":            {laid(4, 0, "a"), "", change{false, []string{t100 + t100[:42]}}},
		"to the end, short":     {allLaid(4, "a", "b", "c"), "", change{false, []string{"d"}}},
		"anew of none":          {"", "", change{true, nil}},
		"anew, one":             {laid(3, 0, "a"), "", change{true, []string{"b"}}},
		"anew over old":         {allLaid(4, "a", "b"), old, change{true, []string{"c", "d"}}},
		"anew over old, back":   {old, allLaid(4, "a", "b"), change{true, []string{"c", t100[:70]}}},
		"anew, full":            {allLaid(4, "a", "b"), old, change{true, []string{"c", "d", "e", "f"}}},
		"anew, long":            {allLaid(4, "a", "b"), old, change{true, []string{t100[:60], "c"}}},
		"anew, half done":       {allLaid(4, "a", "b"), strings.Repeat("\x00", 64) + allLaid(5, "x", "y", "z")[64:], change{true, []string{"c", "d"}}},
	}
}

// P9.2, P9.3: the power fails in each write and flush of a change, with all bits of what waits, and the last one torn at many places.
func TestEachFailure(t *testing.T) {
	for name, x := range changes() {
		at := 1
		for ; ; at++ {
			failed := false
			for keep := range uint64(1 << 5) {
				for _, torn := range []int{0, 1, 16, 17, 48, 50, 62, 63, 64} {
					failed = fails(t, 8, x.first, x.second, x.c, api.Cut{At: at, Keep: keep, Torn: torn})
				}
			}
			if t.Failed() {
				t.Fatal(name, at)
			}
			if !failed {
				break
			}
		}
		if at < 4 {
			t.Error(name, "failed at so few places:", at)
		}
	}
}

// P9.3: a record's first sector is torn at each place: only whole it is one, over bytes 0 and over old ones.
func TestTornFirstSector(t *testing.T) {
	for _, behind := range []string{"", strings.Repeat("z", 63) + "\x00", laid(4, 1, "old")[:63] + "\x00"} {
		for _, text := range []string{"", "b", strings.Repeat("b", 13), strings.Repeat("b", 14), strings.Repeat("b", 100)} {
			for torn := range 65 {
				d := made(t, 12, laid(4, 0, "a")+behind, "")
				calls, _ := appends(6, wordsOfAll(d.Image()), text)
				d.Arm(api.Cut{At: len(calls), Keep: 1, Torn: torn})
				is(t, "Append", open(t, d).Append(text), api.ErrDown)
				d.Start()
				if torn == 64 {
					opened(t, d, "a", text)
				} else {
					opened(t, d, "a")
				}
			}
		}
	}
}

// P9.3: records on more sectors than there are bits in what tells which writes are kept.
func TestLongFailures(t *testing.T) {
	long := strings.Repeat("0123456789", 800)
	for _, c := range []change{{false, []string{long}}, {true, []string{long[:5000], "a", long[:3000]}}} {
		for at := 1; ; at++ {
			failed := false
			for _, keep := range []uint64{0, 1, 2, math.MaxUint64, math.MaxUint64 - 1, 1 << 63, 0x5555555555555555} {
				failed = fails(t, 300, laid(1, 0, "a"), allLaid(1, long), c, api.Cut{At: at, Keep: keep, Torn: at % 65})
			}
			if t.Failed() {
				t.FailNow()
			}
			if !failed {
				break
			}
		}
	}
}

// drawnTexts: of lengths at the edges of sectors, too.
func drawnTexts(draw func(int) int, most, size int) []string {
	texts := make([]string, draw(most+1))
	for i := range texts {
		long := draw(40)
		if draw(3) == 0 {
			long = max(0, 64*draw(size+1)-50+draw(3)-1)
		}
		texts[i] = strings.Repeat(strconv.Itoa(draw(10)), long)
	}
	return texts
}

// drawn: a change, such as may be, or not.
func drawn(draw func(int) int, size int) change {
	if draw(4) == 0 {
		return change{true, drawnTexts(draw, 4, size/2)}
	}
	for {
		if l := drawnTexts(draw, 1, size/3); len(l) == 1 {
			return change{false, l}
		}
	}
}

// P9.1, P9.2, P9.3: changes without a pattern, with failures among them, against the chapter's words; behind each failure the journal is opened again and goes on.
func TestDrawnChanges(t *testing.T) {
	draw := mixer(1)
	failures, refusals := 0, 0
	for round := range 400 {
		size := 4 + draw(9)
		d, by := made(t, 2*size, "", ""), made(t, 2*size, "", "")
		j, w := open(t, d), told{}
		for range 60 {
			c := drawn(draw, size)
			if draw(3) == 0 {
				cut := api.Cut{At: 1 + draw(14), Keep: uint64(draw(1 << 12)), Torn: draw(65)}
				d.Arm(cut)
				by.Arm(cut)
			}
			calls, next, want := c.words(size, w)
			if want == api.OK {
				want = does(by, calls)
			}
			is(t, "a change", c.to(j), want)
			switch want {
			case api.OK:
				w = next
			case api.ErrDown:
				failures++
				tells(t, j)
				w = again(t, d, by, w, next)
				j = open(t, d)
			default:
				refusals++
			}
			alike(t, d, by, j, w)
			if t.Failed() {
				t.Fatalf("round %d", round)
			}
		}
	}
	if failures < 1000 || refusals < 1000 {
		t.Error("too few of both:", failures, refusals)
	}
}

// again: the power is back: what both disks tell now, which must be what was told or what was to be.
func again(t *testing.T, d, by *disk.Disk, was, next told) told {
	t.Helper()
	d.Start()
	by.Start()
	w := wordsOfAll(by.Image())
	if !slices.Equal(w.texts, was.texts) && !slices.Equal(w.texts, next.texts) {
		t.Errorf("it tells %q, neither %q nor %q", short(w.texts), short(was.texts), short(next.texts))
	}
	return w
}

// alike: both disks have the same bytes, and the journal tells what the words tell.
func alike(t *testing.T, d, by *disk.Disk, j *journal.Journal, w told) {
	t.Helper()
	if d.Image() != by.Image() {
		t.Error("other bytes than the chapter's")
	}
	tells(t, j, w.texts...)
	if want := room(d.Size()/2, w); j.Room() != want {
		t.Errorf("room %d, not %d", j.Room(), want)
	}
	if x := wordsOfAll(d.Image()); x.half != w.half || x.generation != w.generation || !slices.Equal(x.texts, w.texts) {
		t.Errorf("what lies there tells %q, not %q", short(x.texts), short(w.texts))
	}
}

// P9.3: a change fails again and again, each time at the next place, and goes well in the end.
func TestFailsAgainAndAgain(t *testing.T) {
	for _, c := range []change{{false, []string{strings.Repeat("b", 70)}}, {true, []string{"b", strings.Repeat("c", 70)}}} {
		for _, keep := range []uint64{0, 1, 2, 3, math.MaxUint64} {
			d := made(t, 10, allLaid(2, "a", "x"), laid(1, 0, "old"))
			was := []string{"a", "x"}
			want := c.texts
			if !c.anew {
				want = append(was[:2:2], c.texts...)
			}
			for at := 1; ; at++ {
				j := open(t, d)
				if slices.Equal(j.Texts(), want) {
					break
				}
				tells(t, j, was...)
				d.Arm(api.Cut{At: at, Keep: keep, Torn: 30 * (at % 3)})
				if c.to(j) == api.OK {
					d.Arm(api.Cut{})
				}
				d.Start()
				if t.Failed() || at > 30 {
					t.Fatal(at, keep)
				}
			}
			opened(t, d, want...)
		}
	}
}
