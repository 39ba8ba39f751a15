package journal_test

import (
	"crypto/sha256"
	"strconv"
	"strings"
	"testing"

	"keyloft/api"
	"keyloft/disk"
	"keyloft/journal"
)

// P9.1: disks of all sizes: an even number of sectors, at least 8, is a journal's.
func TestSizes(t *testing.T) {
	for n := 1; n <= 4096; n++ {
		d, _ := disk.New(n)
		j, e := journal.Open(d)
		if n%2 == 0 && n >= 8 {
			if j == nil || e != api.OK || len(j.Texts()) != 0 || j.Room() != min(32*n-50, 65535) {
				t.Fatalf("%d sectors: %d", n, e)
			}
		} else if j != nil || e != api.ErrRange {
			t.Fatalf("%d sectors: %v, %d", n, j != nil, e)
		}
	}
}

// P9.1: where the power is off there is no journal; of a wrong size ErrRange goes ahead.
func TestOpenWhereOff(t *testing.T) {
	for n, want := range map[int]api.Errno{1: api.ErrRange, 6: api.ErrRange, 7: api.ErrRange, 9: api.ErrRange, 4095: api.ErrRange, 8: api.ErrDown, 10: api.ErrDown, 4096: api.ErrDown} {
		d, _ := disk.New(n)
		d.Crash(0, 0)
		for range 2 {
			if j, e := journal.Open(d); j != nil || e != want {
				t.Errorf("%d sectors: %v, %d, not %d", n, j != nil, e, want)
			}
		}
		if !d.Down() {
			t.Error("the power is on")
		}
	}
}

// P9.1: what is opened isn't written, and a cut isn't come nearer to.
func TestOpenAsks(t *testing.T) {
	d := made(t, 8, allLaid(3, "a", "b"), allLaid(2, "c"))
	image := d.Image()
	d.Arm(api.Cut{At: 1, Keep: 1, Torn: 64})
	for range 5 {
		j := open(t, d)
		tells(t, j, "a", "b")
		if j.Room() != 78 {
			t.Error(j.Room())
		}
	}
	if d.Down() || d.Image() != image {
		t.Error("it is written or flushed")
	}
	is(t, "a flush", d.Flush(), api.ErrDown)
}

// P9.1: the half of the greater generation is told, the first one if they are the same, the other one if one tells none.
func TestGreaterGeneration(t *testing.T) {
	for _, x := range []struct {
		first, second uint64
		want          string
	}{
		{1, 0, "first"}, {0, 1, "second"}, {1, 1, "first"}, {1, 2, "second"}, {2, 1, "first"},
		{255, 256, "second"}, {256, 255, "first"}, {1 << 32, 1<<32 - 1, "first"}, {1, 1 << 32, "second"},
		{1 << 40, 1<<40 - 1, "first"}, {1<<40 - 1, 1 << 40, "second"}, {1 << 40, 1 << 40, "first"},
		{1<<40 + 1, 1, "second"}, {1, 1<<40 + 1, "first"}, {1<<64 - 1, 7, "second"}, {7, 1 << 63, "first"},
		{1<<56 + 9, 7, "second"}, {7, 1<<63 + 9, "first"}, {1<<41 + 9, 7, "second"},
		{1 << 40, 0, "first"}, {0, 1 << 40, "second"},
	} {
		opened(t, made(t, 8, laid(x.first, 0, "first"), laid(x.second, 0, "second")), x.want)
	}
	opened(t, made(t, 8, "", ""))
	opened(t, made(t, 8, laid(0, 0, "a"), laid(1<<40+1, 0, "b")))
	opened(t, made(t, 8, laid(2, 0, "a"), allLaid(1, "b", "c", "d")), "a")
}

// P9.1: records follow one another, of one generation, numbered from 0 on; what doesn't fit into the row ends it.
func TestRows(t *testing.T) {
	long := strings.Repeat("x", 100)
	for i, x := range []struct {
		lies string
		want []string
	}{
		{allLaid(5, "a", "b", "c"), []string{"a", "b", "c"}},
		{allLaid(5, "", "", "", "", "", "", "", ""), []string{"", "", "", "", "", "", "", ""}},
		{allLaid(5, long, "a", long), []string{long, "a", long}},
		{laid(5, 1, "a") + laid(5, 2, "b"), nil},
		{laid(5, 0, "a") + laid(5, 2, "b"), []string{"a"}},
		{laid(5, 0, "a") + laid(5, 0, "b"), []string{"a"}},
		{laid(5, 0, "a") + laid(5, 1, "b") + laid(5, 1, "c"), []string{"a", "b"}},
		{laid(5, 0, "a") + laid(6, 1, "b") + laid(5, 1, "c"), []string{"a"}},
		{laid(5, 0, "a") + laid(4, 1, "b"), []string{"a"}},
		{laid(5, 0, "a") + laid(5+1<<40, 1, "b"), []string{"a"}},
		{laid(5, 0, "a") + laid(5, 1+1<<16, "b"), []string{"a"}},
		{laid(5, 0, "a") + laid(5, 1+1<<24, "b"), []string{"a"}},
		{laid(5, 0, "a") + fill("L") + laid(5, 1, "b"), []string{"a"}},
		{strings.Repeat("\x00", 64) + laid(5, 0, "a"), nil},
		{"L" + laid(5, 0, "a"), nil},
		{laid(5, 0, long)[64:] + laid(5, 0, "a"), nil},
	} {
		for half := range 2 {
			lies := [2]string{}
			lies[half] = x.lies
			j := open(t, made(t, 16, lies[0], lies[1]))
			tells(t, j, x.want...)
			if t.Failed() {
				t.Fatal(i, half)
			}
		}
	}
}

// P9.1: a record has all its bytes; with another one in any place it is none. What fills up may be anything.
func TestEachByte(t *testing.T) {
	for _, long := range []int{0, 1, 13, 14, 15, 60, 77, 78, 79, 150} {
		text := strings.Repeat("t", long)
		one, ahead := laid(9, 1, text), laid(9, 0, "ahead")
		counts := func(i int) bool {
			if i < 63 {
				return i < 49+long
			}
			return i == 63 || i < 50+long
		}
		for i := range one {
			for _, by := range []byte{1, 0x80, 0xff} {
				b := []byte(one)
				b[i] ^= by
				want := []string{"ahead", text}
				if counts(i) {
					want = want[:1]
				}
				opened(t, made(t, 16, ahead+string(b), ""), want...)
				if t.Failed() {
					t.Fatalf("text of %d, byte %d turned by %d", long, i, by)
				}
			}
		}
	}
}

// P9.1: a record begins with L, and so ends its first sector; with another letter it is none, though its digest holds.
func TestOtherLetters(t *testing.T) {
	bytes := bytesOf(1, 0, 1, "a")
	for letter := range 256 {
		body := string([]byte{byte(letter)}) + bytes[1:18]
		digest := sha256.Sum256([]byte(body))
		first := onSectors(body + string(digest[:]))
		last := onSectors(bytes)[:63] + string([]byte{byte(letter)})
		var want []string
		if letter == 'L' {
			want = []string{"a"}
		}
		opened(t, made(t, 8, first, ""), want...)
		opened(t, made(t, 8, last, ""), want...)
	}
}

// P9.1: texts' lengths that aren't theirs, or more than may be, or than go into the half.
func TestSaidLengths(t *testing.T) {
	text := strings.Repeat("t", 100)
	for _, long := range []uint32{0, 1, 99, 101, 255, 256, 65535, 65536, 65636, 1 << 24, 1<<24 + 100, 1 << 31, 1<<31 + 100, 1<<32 - 1, 1<<32 - 50, 1<<32 - 49} {
		opened(t, made(t, 8, onSectors(bytesOf(1, 0, long, text)), ""))
	}
	opened(t, made(t, 8, onSectors(bytesOf(1, 0, 100, text)), ""), text)
	for _, long := range []int{65535, 65536, 65537, 70000} {
		d := made(t, 4096, laid(1, 0, strings.Repeat("t", long)), "")
		if long > 65535 {
			opened(t, d)
		} else {
			opened(t, d, strings.Repeat("t", long))
		}
	}
}

// P9.1: a record lies in one half: what goes on in the other one is none.
func TestOverTheMiddle(t *testing.T) {
	for _, long := range []int{206, 207, 300, 460, 461} {
		whole := laid(1, 0, strings.Repeat("t", long))
		d, _ := disk.New(8)
		for at := 0; at < len(whole); at += 64 {
			if e := d.Write(at/64, whole[at:at+64]); e != api.OK && len(whole) <= 512 {
				t.Fatal(e)
			}
		}
		if long == 206 {
			opened(t, d, strings.Repeat("t", long))
		} else {
			opened(t, d)
		}
	}
	ahead := allLaid(1, "a", "b")
	behind := laid(1, 2, strings.Repeat("t", 100))
	opened(t, made(t, 8, ahead+behind[:128], behind[128:]), "a", "b")
}

// P9.1: a half that is full of records tells them all, on the smallest disk and on the largest one.
func TestFullHalves(t *testing.T) {
	for _, sectors := range []int{8, 10, 64, 4096} {
		var texts []string
		for i := range sectors / 2 {
			texts = append(texts, strconv.Itoa(i))
		}
		for _, lies := range [][2]string{{allLaid(7, texts...), ""}, {"", allLaid(7, texts...)}, {allLaid(7, texts...), allLaid(6, texts...)}} {
			j := open(t, made(t, sectors, lies[0], lies[1]))
			tells(t, j, texts...)
			if j.Room() != -50 {
				t.Error(j.Room())
			}
		}
	}
}

// P9.1: room behind records on so many sectors.
func TestRoom(t *testing.T) {
	for _, x := range []struct{ sectors, used, want int }{
		{8, 0, 206}, {8, 1, 142}, {8, 2, 78}, {8, 3, 14}, {8, 4, -50}, {10, 0, 270},
		{2048, 0, 65486}, {2050, 0, 65535}, {2050, 1, 65486}, {2052, 0, 65535}, {4096, 0, 65535},
		{4096, 1023, 65535}, {4096, 1024, 65486}, {4096, 1022, 65535}, {4096, 2047, 14}, {4096, 2048, -50},
	} {
		texts := make([]string, x.used)
		for _, lies := range [][2]string{{allLaid(7, texts...), ""}, {"", allLaid(7, texts...)}} {
			if n := open(t, made(t, x.sectors, lies[0], lies[1])).Room(); n != x.want {
				t.Errorf("%d sectors, %d used: %d, not %d", x.sectors, x.used, n, x.want)
			}
		}
	}
	if n := open(t, made(t, 16, laid(1, 0, strings.Repeat("t", 150)), laid(2, 0, strings.Repeat("t", 15)))).Room(); n != 64*6-50 {
		t.Error(n)
	}
}

// P9.1: each answer is a list of its own.
func TestTextsAreNew(t *testing.T) {
	j := open(t, made(t, 8, allLaid(1, "a", "b"), ""))
	l := j.Texts()
	l[0] = "other"
	_ = append(l[:1], "other")
	tells(t, j, "a", "b")
	is(t, "Append", j.Append("c"), api.OK)
	more := append(j.Texts(), "d")
	is(t, "Append", j.Append("e"), api.OK)
	tells(t, j, "a", "b", "c", "e")
	if more[3] != "d" {
		t.Error(more)
	}
}
