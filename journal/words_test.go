package journal_test

import (
	"crypto/sha256"
	"encoding/binary"
	"slices"
	"strings"
	"testing"

	"keyloft/api"
	"keyloft/disk"
	"keyloft/journal"
)

// mixer: numbers without a pattern, the same in each run.
func mixer(seed uint64) func(below int) int {
	return func(below int) int {
		seed = seed*6364136223846793005 + 1442695040888963407
		return int(seed >> 33 % uint64(below))
	}
}

// fill: a text, filled up with bytes 0 to whole sectors.
func fill(s string) string { return s + strings.Repeat("\x00", (64-len(s)%64)%64) }

// bytesOf: a record's bytes, by the chapter's words; how long its text is said to be may be another number than its length.
func bytesOf(generation uint64, number, long uint32, text string) string {
	b := binary.BigEndian.AppendUint64([]byte("L"), generation)
	b = binary.BigEndian.AppendUint32(b, number)
	b = binary.BigEndian.AppendUint32(b, long)
	b = append(b, text...)
	digest := sha256.Sum256(b)
	return string(b) + string(digest[:])
}

// onSectors: a record's bytes, laid on whole sectors.
func onSectors(bytes string) string {
	if len(bytes) <= 63 {
		return bytes + strings.Repeat("\x00", 63-len(bytes)) + "L"
	}
	return bytes[:63] + "L" + fill(bytes[63:])
}

// laid: a record, on whole sectors.
func laid(generation uint64, number int, text string) string {
	return onSectors(bytesOf(generation, uint32(number), uint32(len(text)), text))
}

// allLaid: records of all texts, one behind the other.
func allLaid(generation uint64, texts ...string) string {
	var all string
	for i, s := range texts {
		all += laid(generation, i, s)
	}
	return all
}

// made: a disk with these bytes from its first sector on, and these in its second half; all lasts.
func made(t *testing.T, sectors int, first, second string) *disk.Disk {
	t.Helper()
	d, e := disk.New(sectors)
	if e != api.OK {
		t.Fatalf("a disk of %d: %d", sectors, e)
	}
	for i, s := range []string{first, second} {
		s = fill(s)
		if len(s) > 32*sectors {
			t.Fatalf("%d bytes don't go into a half of %d sectors", len(s), sectors/2)
		}
		for at := 0; at < len(s); at += 64 {
			if e := d.Write(i*sectors/2+at/64, s[at:at+64]); e != api.OK {
				t.Fatal(e)
			}
		}
	}
	if e := d.Flush(); e != api.OK {
		t.Fatal(e)
	}
	return d
}

// imageOf: a disk with these bytes in its halves.
func imageOf(sectors int, first, second string) string {
	half := sectors * 32
	return first + strings.Repeat("\x00", half-len(first)) + second + strings.Repeat("\x00", half-len(second))
}

// open: a disk's journal.
func open(t *testing.T, d *disk.Disk) *journal.Journal {
	t.Helper()
	j, e := journal.Open(d)
	if j == nil || e != api.OK {
		t.Fatalf("Open: %d", e)
	}
	return j
}

// is: a call's error is the wanted one.
func is(t *testing.T, what string, e, want api.Errno) {
	t.Helper()
	if e != want {
		t.Errorf("%s: %d, not %d", what, e, want)
	}
}

// short: a text, or how long it is.
func short(l []string) []string {
	out := slices.Clone(l)
	for i, s := range out {
		if len(s) > 20 {
			out[i] = s[:20] + ".."
		}
	}
	return out
}

// tells: a journal's texts are these.
func tells(t *testing.T, j *journal.Journal, texts ...string) {
	t.Helper()
	if l := j.Texts(); !slices.Equal(l, texts) {
		t.Errorf("%q, not %q", short(l), short(texts))
	}
}

// opened: a disk's journal, opened now, tells these texts.
func opened(t *testing.T, d *disk.Disk, texts ...string) {
	t.Helper()
	tells(t, open(t, d), texts...)
}

// looks: a disk has these bytes in its halves, and they last.
func looks(t *testing.T, d *disk.Disk, first, second string) {
	t.Helper()
	got, want := d.Image(), imageOf(d.Size(), first, second)
	if got == want {
		return
	}
	for at := range len(want) {
		if got[at] != want[at] {
			at -= at % 64
			t.Errorf("sector %d: %q, not %q", at/64, got[at:at+64], want[at:at+64])
			return
		}
	}
}

// told: what a journal tells, by the chapter's words.
type told struct {
	half       int // 0, 1
	generation uint64
	texts      []string
	used       int // sectors
}

// call: of a disk.
type call struct {
	flush bool
	at    int
	data  string
}

// wordsOf: what an image's half tells.
func wordsOf(image string, half int) told {
	size := len(image) / 2
	lies := image[half*size : half*size+size]
	w := told{half: half}
	for number := uint32(0); ; number++ {
		rest := lies[64*w.used:]
		if len(rest) < 64 || rest[63] != 'L' {
			return w
		}
		bytes := rest[:63] + rest[64:]
		generation := binary.BigEndian.Uint64([]byte(bytes[1:]))
		long := binary.BigEndian.Uint32([]byte(bytes[13:]))
		if generation < 1 || generation > 1<<40 || long > 65535 || 17+int(long)+32 > len(bytes) {
			return w
		}
		text := bytes[17 : 17+long]
		if bytes[:17+long+32] != bytesOf(generation, number, long, text) || number > 0 && generation != w.generation {
			return w
		}
		w.generation = generation
		w.texts = append(w.texts, text)
		w.used += len(laid(generation, 0, text)) / 64
	}
}

// wordsOfAll: what an image's journal tells.
func wordsOfAll(image string) told {
	a, b := wordsOf(image, 0), wordsOf(image, 1)
	if b.generation > a.generation {
		return b
	}
	return a
}

// lays: the calls that lay bytes at a place of a half of so many sectors.
func lays(size, half, place int, bytes string, emptied bool) []call {
	var l []call
	from := half * size
	if behind := place + len(bytes)/64; emptied && behind < size {
		l = append(l, call{at: from + behind})
	}
	for i := len(bytes)/64 - 1; i >= 1; i-- {
		l = append(l, call{at: from + place + i, data: bytes[64*i : 64*i+64]})
	}
	return append(l, call{flush: true}, call{at: from + place, data: bytes[:64]}, call{flush: true})
}

// appends: the calls of an Append, and what is told behind it.
func appends(size int, w told, s string) ([]call, told) {
	generation := max(w.generation, 1)
	bytes := laid(generation, len(w.texts), s)
	next := told{w.half, generation, append(slices.Clone(w.texts), s), w.used + len(bytes)/64}
	return lays(size, w.half, w.used, bytes, true), next
}

// anews: the calls of an Anew, and what is told behind it.
func anews(size int, w told, l []string) ([]call, told) {
	if len(l) == 0 {
		l = []string{""}
	}
	next := told{half: 1 - w.half, generation: w.generation + 1, texts: l}
	calls := []call{{at: next.half * size}, {flush: true}}
	var each [][]call
	for i, s := range l {
		bytes := laid(next.generation, i, s)
		each = append(each, lays(size, next.half, next.used, bytes, i == len(l)-1))
		next.used += len(bytes) / 64
	}
	slices.Reverse(each)
	return append(calls, slices.Concat(each...)...), next
}

// does: calls, one behind the other, till one is answered with an error.
func does(d *disk.Disk, calls []call) api.Errno {
	for _, c := range calls {
		e := api.OK
		if c.flush {
			e = d.Flush()
		} else {
			e = d.Write(c.at, c.data)
		}
		if e != api.OK {
			return e
		}
	}
	return api.OK
}

// room: by the words.
func room(size int, w told) int { return min(64*(size-w.used)-50, 65535) }

// goes: do texts go into a half of so many sectors?
func goes(size int, l []string) bool {
	for _, s := range l {
		if len(s) > 65535 {
			return false
		}
	}
	return len(allLaid(1, l...)) <= 64*size
}
