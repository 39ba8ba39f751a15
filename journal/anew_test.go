package journal_test

import (
	"slices"
	"strings"
	"testing"

	"keyloft/api"
)

// P9.2: the other half gets the records, of the next generation; by turns.
func TestAnew(t *testing.T) {
	d := made(t, 8, "", "")
	j := open(t, d)
	is(t, "Append", j.Append("0"), api.OK)
	lies := [2]string{laid(1, 0, "0")}
	for generation := uint64(2); generation < 20; generation++ {
		texts := []string{"a", strings.Repeat("b", int(generation)), "c"}[generation%3:]
		is(t, "Anew", j.Anew(texts), api.OK)
		tells(t, j, texts...)
		half := 1 - generation%2
		old := fill(lies[half])
		lies[half] = allLaid(generation, texts...)
		if behind := len(lies[half]) + 64; behind <= 256 {
			lies[half] += strings.Repeat("\x00", 64)
			if len(old) > behind {
				lies[half] += old[behind:]
			}
		}
		looks(t, d, lies[0], lies[1])
		opened(t, d, texts...)
	}
}

// P9.2: of no texts it lays one record of an empty text.
func TestAnewOfNone(t *testing.T) {
	for _, l := range [][]string{nil, {}, {""}} {
		d := made(t, 8, allLaid(4, "a", "b"), "")
		j := open(t, d)
		is(t, "Anew", j.Anew(l), api.OK)
		tells(t, j, "")
		looks(t, d, allLaid(4, "a", "b"), laid(5, 0, ""))
		opened(t, d, "")
		if j.Room() != 142 {
			t.Error(j.Room())
		}
	}
}

// P9.2: of a journal that tells none the other half is the second one, and the next generation the first one.
func TestAnewOfANewJournal(t *testing.T) {
	d := made(t, 8, "", "")
	j := open(t, d)
	is(t, "Anew", j.Anew([]string{"a", "b"}), api.OK)
	tells(t, j, "a", "b")
	looks(t, d, "", allLaid(1, "a", "b"))
	is(t, "Append", j.Append("c"), api.OK)
	looks(t, d, "", allLaid(1, "a", "b", "c"))
	is(t, "Anew", j.Anew([]string{"d"}), api.OK)
	looks(t, d, laid(2, 0, "d"), allLaid(1, "a", "b", "c"))
}

// P9.2: behind the greatest generation there is none: ErrRange, ahead of ErrFull; records are appended still.
func TestGreatestGeneration(t *testing.T) {
	for half := range 2 {
		lies := [2]string{}
		lies[half] = laid(1<<40-1, 0, "a")
		d := made(t, 8, lies[0], lies[1])
		j := open(t, d)
		is(t, "Anew", j.Anew([]string{"b"}), api.OK)
		lies[1-half] = laid(1<<40, 0, "b")
		looks(t, d, lies[0], lies[1])
		for _, l := range [][]string{nil, {"c"}, {strings.Repeat("c", 207)}, {strings.Repeat("c", 65536)}, make([]string, 5)} {
			is(t, "Anew", j.Anew(l), api.ErrRange)
		}
		tells(t, j, "b")
		looks(t, d, lies[0], lies[1])
		is(t, "Append", j.Append("d"), api.OK)
		tells(t, j, "b", "d")
		is(t, "Anew", j.Anew(nil), api.ErrRange)
		opened(t, d, "b", "d")
	}
}

// P9.2: what doesn't go into a half is refused, and changes nothing.
func TestAnewFull(t *testing.T) {
	all := func(longs ...int) []string {
		var l []string
		for _, n := range longs {
			l = append(l, strings.Repeat("x", n))
		}
		return l
	}
	for _, x := range []struct {
		l    []string
		want api.Errno
	}{
		{all(206), api.OK}, {all(207), api.ErrFull}, {all(14, 14, 14, 14), api.OK}, {all(14, 14, 14, 15), api.ErrFull}, {all(15, 14, 14, 14), api.ErrFull},
		{all(15, 14, 14), api.OK}, {all(78, 78), api.OK}, {all(78, 79), api.ErrFull}, {all(79, 78), api.ErrFull}, {all(142, 14), api.OK}, {all(14, 143), api.ErrFull},
		{all(0, 0, 0, 0), api.OK}, {all(0, 0, 0, 0, 0), api.ErrFull}, {all(206, 0), api.ErrFull}, {all(0, 206), api.ErrFull}, {all(65535), api.ErrFull}, {all(0, 65536), api.ErrFull}, {make([]string, 1<<20), api.ErrFull},
	} {
		d := made(t, 8, allLaid(2, "a", "b"), laid(1, 0, "c"))
		j := open(t, d)
		is(t, "Anew", j.Anew(x.l), x.want)
		if x.want == api.OK {
			tells(t, j, x.l...)
			opened(t, d, x.l...)
			continue
		}
		tells(t, j, "a", "b")
		if j.Room() != 78 {
			t.Error(j.Room())
		}
		looks(t, d, allLaid(2, "a", "b"), laid(1, 0, "c"))
		is(t, "Append", j.Append("d"), api.OK)
		looks(t, d, allLaid(2, "a", "b", "d"), laid(1, 0, "c"))
	}
}

// P9.2: a text of more than 65535 bytes isn't laid, whatever room there is.
func TestAnewOfLongest(t *testing.T) {
	longest := strings.Repeat("x", 65535)
	d := made(t, 4096, laid(1, 0, "a"), "")
	j := open(t, d)
	for _, l := range [][]string{{longest + "x"}, {"b", longest + "x"}, {longest + "x", "b"}, {longest, longest}} {
		is(t, "Anew", j.Anew(l), api.ErrFull)
	}
	looks(t, d, laid(1, 0, "a"), "")
	l := []string{longest, longest[:64*1023-50]}
	is(t, "Anew", j.Anew(l), api.OK)
	opened(t, d, l...)
	looks(t, d, laid(1, 0, "a"), allLaid(2, l...))
}

// P9.2: how full the half is that is told plays no part.
func TestAnewOfAFullHalf(t *testing.T) {
	d := made(t, 8, allLaid(1, "a", "b", "c", "d"), "")
	j := open(t, d)
	is(t, "Append", j.Append(""), api.ErrFull)
	is(t, "Anew", j.Anew([]string{"e", "f", "g", "h"}), api.OK)
	is(t, "Append", j.Append(""), api.ErrFull)
	is(t, "Anew", j.Anew([]string{"i"}), api.OK)
	is(t, "Append", j.Append("j"), api.OK)
	opened(t, d, "i", "j")
}

// P9.2: behind the last one a sector is written empty, behind no other one, and not in the half that stands behind.
func TestAnewEmptiesBehind(t *testing.T) {
	old := allLaid(3, "0", "1", "2", "3")
	for n := 1; n <= 4; n++ {
		texts := []string{"a", "b", "c", "d"}[:n]
		want := allLaid(5, texts...)
		if n < 4 {
			want += strings.Repeat("\x00", 64)
		}
		want += old[len(want):]
		d := made(t, 8, old, allLaid(4, "e", "f", "g", "h"))
		is(t, "Anew", open(t, d).Anew(texts), api.OK)
		looks(t, d, want, allLaid(4, "e", "f", "g", "h"))
		opened(t, d, texts...)
	}
}

// P9.2: the list isn't changed, nor kept.
func TestListIsNotKept(t *testing.T) {
	j := open(t, made(t, 8, "", ""))
	l := append(make([]string, 0, 4), "a", "b")
	is(t, "Anew", j.Anew(l), api.OK)
	if !slices.Equal(l[:4], []string{"a", "b", "", ""}) {
		t.Errorf("%q", l[:4])
	}
	l[0] = "other"
	tells(t, j, "a", "b")
	is(t, "Append", j.Append("c"), api.OK)
	if l[:3][2] != "" {
		t.Errorf("%q", l[:3])
	}
	tells(t, j, "a", "b", "c")
}
