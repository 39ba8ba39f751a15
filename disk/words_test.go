package disk_test

import (
	"math"
	"strings"
	"testing"

	"keyloft/api"
	"keyloft/disk"
)

// mixer: numbers without a pattern, the same in each run.
func mixer(seed uint64) func(below int) int {
	return func(below int) int {
		seed = seed*6364136223846793005 + 1442695040888963407
		return int(seed >> 33 % uint64(below))
	}
}

// fill: a text, filled up with bytes 0 to a sector.
func fill(s string) string { return s + strings.Repeat("\x00", 64-len(s)) }

// full: a sector of one letter.
func full(letter string) string { return strings.Repeat(letter, 64) }

// texts: of sectors, one behind the other, each filled up.
func texts(sectors ...string) string {
	var all string
	for _, s := range sectors {
		all += fill(s)
	}
	return all
}

// made: a disk of so many sectors.
func made(t *testing.T, sectors int) *disk.Disk {
	t.Helper()
	d, e := disk.New(sectors)
	if e != api.OK || d == nil {
		t.Fatalf("New(%d): %d", sectors, e)
	}
	return d
}

// is: a call's error is the wanted one.
func is(t *testing.T, what string, e, want api.Errno) {
	t.Helper()
	if e != want {
		t.Errorf("%s: %d, not %d", what, e, want)
	}
}

// sees: all sectors are read so.
func sees(t *testing.T, d *disk.Disk, sectors ...string) {
	t.Helper()
	if d.Size() != len(sectors) {
		t.Fatalf("%d sectors, not %d", d.Size(), len(sectors))
	}
	for at, want := range sectors {
		if s, e := d.Read(at); s != fill(want) || e != api.OK {
			t.Errorf("sector %d: %q, %d, not %q", at, s, e, want)
		}
	}
}

// lasts: the image is that of these sectors.
func lasts(t *testing.T, d *disk.Disk, sectors ...string) {
	t.Helper()
	if d.Image() != texts(sectors...) {
		t.Errorf("image %q, not %q", d.Image(), sectors)
	}
}

// keeps: behind a failure that came these sectors last, and are seen once the power is back.
func keeps(t *testing.T, d *disk.Disk, sectors ...string) {
	t.Helper()
	if !d.Down() {
		t.Error("the power is on")
	}
	lasts(t, d, sectors...)
	d.Start()
	sees(t, d, sectors...)
	lasts(t, d, sectors...)
}

// waits: a write, by the chapter's words.
type waits struct {
	at   int
	data string
}

// words: a disk as the chapter tells of it: what lasts, and all writes that wait. What is seen is made anew for each look.
type words struct {
	lasting []string
	waiting []waits
	armed   bool
	cut     api.Cut
	since   int // writes and flushes since it was armed
	down    bool
}

// blank: a disk of bytes 0.
func blank(sectors int) *words {
	w := &words{}
	for range sectors {
		w.lasting = append(w.lasting, fill(""))
	}
	return w
}

// seen: what lasts, with all that waits over it.
func (w *words) seen() []string {
	all := append([]string(nil), w.lasting...)
	for _, x := range w.waiting {
		all[x.at] = x.data
	}
	return all
}

// fails: the power, and what is kept.
func (w *words) fails(keep uint64, torn int) {
	if w.down {
		return
	}
	for i, x := range w.waiting {
		if i > 63 || keep&(1<<i) == 0 {
			continue
		}
		first := 64
		if i == len(w.waiting)-1 && torn < 64 {
			first = torn
		}
		if first > 0 {
			w.lasting[x.at] = x.data[:first] + w.lasting[x.at][first:]
		}
	}
	w.waiting, w.down, w.armed = nil, true, false
}

// strikes: does the power fail in this write or flush?
func (w *words) strikes() bool {
	w.since++
	if !w.armed || w.since != w.cut.At {
		return false
	}
	w.fails(w.cut.Keep, w.cut.Torn)
	return true
}

func (w *words) write(at int, data string) api.Errno {
	switch {
	case w.down:
		return api.ErrDown
	case at < 0 || at >= len(w.lasting):
		return api.ErrRange
	case len(data) > 64:
		return api.ErrLong
	}
	w.waiting = append(w.waiting, waits{at, fill(data)})
	if w.strikes() {
		return api.ErrDown
	}
	return api.OK
}

func (w *words) flush() api.Errno {
	if w.down || w.strikes() {
		return api.ErrDown
	}
	w.lasting, w.waiting = w.seen(), nil
	return api.OK
}

func (w *words) arm(c api.Cut) { w.armed, w.cut, w.since = c.At >= 1, c, 0 }

// drawnCut: a cut whose numbers are also at the edges, and beyond them.
func drawnCut(draw func(int) int, soon int) api.Cut {
	return api.Cut{At: draw(soon+2) - 1, Keep: drawnKeep(draw), Torn: drawnTorn(draw)}
}

// drawnKeep: bits, often all of them.
func drawnKeep(draw func(int) int) uint64 {
	switch draw(4) {
	case 0:
		return math.MaxUint64
	case 1:
		return 1 << draw(64)
	}
	return uint64(draw(1<<31))<<33 | uint64(draw(1<<31))<<2 | uint64(draw(4))
}

// drawnTorn: seldom beyond a sector's ends.
func drawnTorn(draw func(int) int) int {
	const edges = 6
	if draw(4) > 0 {
		return draw(65)
	}
	return [edges]int{-1, 0, 64, 65, math.MaxInt, math.MinInt}[draw(edges)]
}

// drawnData: of any length that may be, seldom a longer one.
func drawnData(draw func(int) int) string {
	b := make([]byte, draw(68))
	for i := range b {
		b[i] = byte(draw(256))
	}
	return string(b)
}

// alike: a disk answers as the words tell.
func alike(t *testing.T, d *disk.Disk, w *words) {
	t.Helper()
	if d.Size() != len(w.lasting) || d.Down() != w.down || d.Image() != texts(w.lasting...) {
		t.Fatalf("size %d, down %v, image %q, not %d, %v, %q", d.Size(), d.Down(), d.Image(), len(w.lasting), w.down, w.lasting)
	}
	for at, want := range w.seen() {
		e := api.OK
		if w.down {
			want, e = "", api.ErrDown
		}
		if s, f := d.Read(at); s != want || f != e {
			t.Fatalf("sector %d: %q, %d, not %q, %d", at, s, f, want, e)
		}
	}
}

// drawnStep: one call, of a disk and of the words.
func drawnStep(t *testing.T, draw func(int) int, d *disk.Disk, w *words, flushes int) {
	t.Helper()
	switch kind := draw(100); {
	case kind < flushes:
		is(t, "a flush", d.Flush(), w.flush())
	case kind < 86:
		at, data := draw(len(w.lasting)+2)-1, drawnData(draw)
		is(t, "a write", d.Write(at, data), w.write(at, data))
	case kind < 90:
		c := drawnCut(draw, 30)
		d.Arm(c)
		w.arm(c)
	case kind < 91:
		keep, torn := drawnKeep(draw), drawnTorn(draw)
		d.Crash(keep, torn)
		w.fails(keep, torn)
	default:
		d.Start()
		w.down = false
	}
}

// P8.1, P8.2, P8.3: calls without a pattern, against the chapter's words.
func TestDrawnCalls(t *testing.T) {
	draw := mixer(1)
	for round := range 300 {
		size := 1 + draw(6)
		d, w := made(t, size), blank(size)
		for range 150 {
			drawnStep(t, draw, d, w, 1+round%3*10)
			alike(t, d, w)
			if t.Failed() {
				t.Fatalf("round %d", round)
			}
		}
	}
}

// P8.2: failures alone, of writes without a pattern, of which more wait than there are bits.
func TestDrawnFailures(t *testing.T) {
	draw := mixer(2)
	for range 1500 {
		size := 1 + draw(5)
		d, w := made(t, size), blank(size)
		for range draw(75) {
			at, data := draw(size), drawnData(draw)
			is(t, "a write", d.Write(at, data), w.write(at, data))
		}
		keep, torn := drawnKeep(draw), drawnTorn(draw)
		d.Crash(keep, torn)
		w.fails(keep, torn)
		alike(t, d, w)
		d.Start()
		w.down = false
		alike(t, d, w)
		is(t, "a flush", d.Flush(), w.flush())
		alike(t, d, w)
		if t.Failed() {
			t.FailNow()
		}
	}
}
