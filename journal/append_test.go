package journal_test

import (
	"encoding/hex"
	"strconv"
	"strings"
	"testing"

	"keyloft/api"
)

// P9.2: the chapter's example, with the records' bytes as another program tells them.
func TestExample(t *testing.T) {
	const (
		a  = "4c00000000000000010000000000000001616e123a8aad4b7b7f6bcec9bbaa4a64e7ac28d438953aa23214c177a42fb590dc000000000000000000000000004c"
		b  = "4c0000000000000001000000010000000162a7e624093dfc60cea68a87c4fc521eb7f78cdf32a9cfe9e4adcd04c90a8bcc2f000000000000000000000000004c"
		ab = "4c000000000000000200000000000000026162ad26a2388490a065de56121662dfb9df6fa1cd217a5d3e62958b3ec6ab1849d80000000000000000000000004c"
	)
	text := func(s string) string {
		bytes, err := hex.DecodeString(s)
		if err != nil {
			t.Fatal(err)
		}
		return string(bytes)
	}
	d := made(t, 8, "", "")
	j := open(t, d)
	is(t, "Append", j.Append("a"), api.OK)
	looks(t, d, text(a), "")
	is(t, "Append", j.Append("b"), api.OK)
	tells(t, j, "a", "b")
	looks(t, d, text(a)+text(b), "")
	is(t, "Anew", j.Anew([]string{"ab"}), api.OK)
	tells(t, j, "ab")
	looks(t, d, text(a)+text(b), text(ab))
	opened(t, d, "ab")
}

// P9.2: a record of several sectors, as another program tells it: a byte L stands at the end of the first one alone.
func TestKnownLongRecord(t *testing.T) {
	const want = "4c00000000000000010000000000000064000102030405060708090a0b0c0d0e0f101112131415161718191a1b1c1d1e1f202122232425262728292a2b2c2d4c2e2f303132333435363738393a3b3c3d3e3f404142434445464748494a4b4c4d4e4f505152535455565758595a5b5c5d5e5f60616263854948c69707e8c2a2785a4d0946e2a3bdc26f2afb6fec4f70d1e0b6d138c533000000000000000000000000000000000000000000000000000000000000000000000000000000000000"
	b := make([]byte, 100)
	for i := range b {
		b[i] = byte(i)
	}
	d := made(t, 8, "", "")
	is(t, "Append", open(t, d).Append(string(b)), api.OK)
	if got := hex.EncodeToString([]byte(d.Image()[:192])); got != want {
		t.Errorf("%s, not %s", got, want)
	}
	opened(t, d, string(b))
}

// P9.2: texts of all lengths that go into a half, behind one, and behind none, in both halves.
func TestLengths(t *testing.T) {
	for long := range 271 {
		text := strings.Repeat("t", long)
		d := made(t, 10, "", "")
		is(t, "Append", open(t, d).Append(text), api.OK)
		looks(t, d, laid(1, 0, text), "")
		opened(t, d, text)
		if long > 206 {
			continue
		}
		d = made(t, 10, laid(3, 0, "old"), laid(4, 0, "new"))
		j := open(t, d)
		is(t, "Append", j.Append(text), api.OK)
		tells(t, j, "new", text)
		looks(t, d, laid(3, 0, "old"), allLaid(4, "new", text))
		opened(t, d, "new", text)
	}
}

// P9.2: records come one behind the other till there is no room; what is as long as the room goes in, one byte more doesn't, and changes nothing.
func TestFull(t *testing.T) {
	for _, sectors := range []int{8, 10, 32} {
		for _, texts := range [][]string{nil, {""}, {"a", strings.Repeat("b", 14)}, {"a", strings.Repeat("b", 15)}, {strings.Repeat("c", 142)}, {"", "", ""}, {"", "", "", ""}, {strings.Repeat("d", 206)}} {
			d := made(t, sectors, allLaid(1, texts...), "")
			j := open(t, d)
			room, image := j.Room(), d.Image()
			for _, more := range []int{1, 2, 63, 64, 65, 1 << 16} {
				is(t, "Append of more than room", j.Append(strings.Repeat("x", max(room, -1)+more)), api.ErrFull)
			}
			if room < 0 {
				is(t, "Append of nothing", j.Append(""), api.ErrFull)
			}
			tells(t, j, texts...)
			if j.Room() != room || d.Image() != image {
				t.Error("what is refused changes something")
			}
			if room < 0 {
				continue
			}
			is(t, "Append", j.Append(strings.Repeat("x", room)), api.OK)
			if j.Room() != -50 {
				t.Error(j.Room())
			}
			is(t, "Append of nothing", j.Append(""), api.ErrFull)
			opened(t, d, append(texts[:len(texts):len(texts)], strings.Repeat("x", room))...)
		}
	}
}

// P9.2: a text of 65535 bytes is the longest one, whatever room there is.
func TestLongest(t *testing.T) {
	longest := strings.Repeat("x", 65535)
	d := made(t, 4096, "", "")
	j := open(t, d)
	is(t, "Append of 65536", j.Append(longest+"x"), api.ErrFull)
	is(t, "Append of 2^20", j.Append(strings.Repeat(longest, 16)), api.ErrFull)
	looks(t, d, "", "")
	is(t, "Append", j.Append(longest), api.OK)
	looks(t, d, laid(1, 0, longest), "")
	if j.Room() != 64*(2048-1025)-50 {
		t.Error(j.Room())
	}
	is(t, "Append", j.Append(longest[:j.Room()]), api.OK)
	is(t, "Append of nothing", j.Append(""), api.ErrFull)
	opened(t, d, longest, longest[:64*1023-50])
}

// P9.2: what is refused isn't counted towards a cut, nor changes what is told.
func TestRefusedAppend(t *testing.T) {
	d := made(t, 8, laid(1, 0, "a"), "")
	j := open(t, d)
	d.Arm(api.Cut{At: 1, Keep: 0})
	for range 5 {
		is(t, "Append", j.Append(strings.Repeat("x", 143)), api.ErrFull)
		is(t, "Anew", j.Anew([]string{strings.Repeat("x", 207)}), api.ErrFull)
	}
	if d.Down() {
		t.Error("what is refused is written or flushed")
	}
	tells(t, j, "a")
	is(t, "Append", j.Append("b"), api.ErrDown)
}

// P9.2: a journal that tells none begins in the first half, of the generation 1, whatever lies there; else the generation stays.
func TestGenerationOfAppend(t *testing.T) {
	for _, x := range []struct {
		first, second string
		half          int
		generation    uint64
		number        int
	}{
		{"", "", 0, 1, 0},
		{laid(0, 0, "a"), laid(1<<40+1, 0, "b"), 0, 1, 0},
		{laid(7, 1, "a"), "", 0, 1, 0},
		{"", laid(7, 1, "a"), 0, 1, 0},
		{"", laid(7, 0, "a"), 1, 7, 1},
		{laid(8, 0, "a"), laid(7, 0, "b"), 0, 8, 1},
		{laid(8, 0, "a"), allLaid(9, "b", "c"), 1, 9, 2},
		{laid(8, 0, "a"), allLaid(8, "b", "c"), 0, 8, 1},
		{allLaid(1<<40, "a", "b", "c"), "", 0, 1 << 40, 3},
		{"", laid(1<<40, 0, "a"), 1, 1 << 40, 1},
	} {
		lies := [2]string{x.first, x.second}
		d := made(t, 8, lies[0], lies[1])
		is(t, "Append", open(t, d).Append("x"), api.OK)
		lies[x.half] = lies[x.half][:64*x.number] + laid(x.generation, x.number, "x")
		looks(t, d, lies[0], lies[1])
	}
}

// P9.2: the sector behind a record is written empty, whatever lies there; those behind it, and the other half's, aren't touched.
func TestEmptiedBehind(t *testing.T) {
	old := allLaid(1, "0", "1", "2", "3")
	for used := range 4 {
		for _, long := range []int{0, 14, 15, 78} {
			text := strings.Repeat("t", long)
			place := allLaid(1, make([]string, used)...)
			lies := place
			if used > 0 {
				lies = place + strings.Repeat("z", 64) + old[64*used+64:]
			} else {
				lies = strings.Repeat("z", 64) + old[64:]
			}
			d := made(t, 8, lies, old[64:])
			e := open(t, d).Append(text)
			if room := 64*(4-used) - 50; long > room {
				is(t, "Append", e, api.ErrFull)
				continue
			}
			is(t, "Append", e, api.OK)
			want := place + laid(1, used, text)
			if len(want) < 256 {
				want += strings.Repeat("\x00", 64)
			}
			looks(t, d, want+lies[len(want):], old[64:])
			opened(t, d, append(make([]string, used), text)...)
		}
	}
}

// P9.2: what was handed in may be any bytes, and is kept as it is.
func TestAnyBytes(t *testing.T) {
	d := made(t, 64, "", "")
	j := open(t, d)
	var want []string
	for _, s := range []string{"", "\x00", "L", strings.Repeat("L", 200), "\xff\xfe", "α\x00ω", strings.Repeat("\x00", 63), laid(1, 2, "a"), laid(2, 0, "b")} {
		is(t, "Append", j.Append(s), api.OK)
		want = append(want, s)
		tells(t, j, want...)
		opened(t, d, want...)
	}
	is(t, "Anew", j.Anew(want), api.OK)
	tells(t, j, want...)
	opened(t, d, want...)
}

// P9.2: journals of two disks are apart.
func TestApart(t *testing.T) {
	a, b := open(t, made(t, 8, "", "")), open(t, made(t, 8, "", ""))
	is(t, "Append", a.Append("a"), api.OK)
	is(t, "Append", b.Append("b"), api.OK)
	tells(t, a, "a")
	tells(t, b, "b")
}

// P9.2: many records, the numbers of which take more than a byte.
func TestManyRecords(t *testing.T) {
	d := made(t, 4096, "", "")
	j := open(t, d)
	var want []string
	for i := range 2048 {
		is(t, "Append", j.Append(strconv.Itoa(i)), api.OK)
		want = append(want, strconv.Itoa(i))
	}
	tells(t, j, want...)
	looks(t, d, allLaid(1, want...), "")
	is(t, "Append", j.Append(""), api.ErrFull)
	is(t, "Anew", j.Anew(want), api.OK)
	looks(t, d, allLaid(1, want...), allLaid(2, want...))
	opened(t, d, want...)
}
