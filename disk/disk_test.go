package disk_test

import (
	"math"
	"strconv"
	"strings"
	"testing"

	"keyloft/api"
	"keyloft/disk"
)

// P8.1: disks of all right sizes, of bytes 0, with the power on.
func TestNew(t *testing.T) {
	for n := 1; n <= 4096; n++ {
		d := made(t, n)
		if d.Size() != n || d.Down() || len(d.Image()) != 64*n {
			t.Fatalf("%d: %d, %v, %d bytes", n, d.Size(), d.Down(), len(d.Image()))
		}
	}
	sees(t, made(t, 3), "", "", "")
	if made(t, 4096).Image() != strings.Repeat("\x00", 4096*64) {
		t.Error("a new disk isn't of bytes 0")
	}
}

// P8.1: other sizes.
func TestNewOfOtherSizes(t *testing.T) {
	for _, n := range []int{0, -1, -2, -4096, 4097, 4098, 8192, 1 << 16, 1 << 32, 1<<32 + 1, 1 << 58, math.MaxInt, math.MinInt, math.MinInt + 1} {
		if d, e := disk.New(n); d != nil || e != api.ErrRange {
			t.Errorf("%d: %v, %d", n, d != nil, e)
		}
	}
}

// P8.1: what is written is seen at once, filled up, and doesn't last yet.
func TestWrite(t *testing.T) {
	d := made(t, 4)
	is(t, "ab", d.Write(0, "ab"), api.OK)
	is(t, "a full sector", d.Write(3, full("c")), api.OK)
	is(t, "any bytes", d.Write(1, "\xff\x00α\xfe"), api.OK)
	sees(t, d, "ab", "\xff\x00α\xfe", "", full("c"))
	lasts(t, d, "", "", "", "")
	is(t, "a flush", d.Flush(), api.OK)
	sees(t, d, "ab", "\xff\x00α\xfe", "", full("c"))
	lasts(t, d, "ab", "\xff\x00α\xfe", "", full("c"))
}

// P8.1: texts of all lengths that may be, over a sector that was full.
func TestLengths(t *testing.T) {
	for n := range 65 {
		d := made(t, 2)
		for range 2 {
			is(t, "a full sector", d.Write(1, full("x")), api.OK)
			sees(t, d, "", full("x"))
			is(t, strconv.Itoa(n)+" bytes", d.Write(1, strings.Repeat("y", n)), api.OK)
			sees(t, d, "", strings.Repeat("y", n))
			is(t, "a flush", d.Flush(), api.OK)
			lasts(t, d, "", strings.Repeat("y", n))
		}
	}
}

// P8.1: longer ones are refused, and change nothing.
func TestTooLong(t *testing.T) {
	d := made(t, 2)
	d.Write(0, "a")
	d.Flush()
	d.Write(1, "b")
	for _, n := range []int{65, 66, 127, 128, 1 << 8, 1<<8 + 1, 1 << 16, 1<<16 + 64} {
		is(t, strconv.Itoa(n)+" bytes", d.Write(0, strings.Repeat("y", n)), api.ErrLong)
		is(t, strconv.Itoa(n)+" bytes", d.Write(1, strings.Repeat("y", n)), api.ErrLong)
	}
	sees(t, d, "a", "b")
	lasts(t, d, "a", "")
	d.Crash(1, 64)
	keeps(t, d, "a", "b")
}

// P8.1: sectors that there aren't.
func TestNoSuchSector(t *testing.T) {
	for _, size := range []int{1, 2, 4095, 4096} {
		d := made(t, size)
		is(t, "the last one", d.Write(size-1, "a"), api.OK)
		for _, at := range []int{-1, -2, size, size + 1, 4096, 4097, 1 << 32, 1<<32 + size - 1, math.MaxInt, math.MinInt, -1 << 32, -size} {
			is(t, "a write at "+strconv.Itoa(at), d.Write(at, "b"), api.ErrRange)
			is(t, "a long one at "+strconv.Itoa(at), d.Write(at, full("b")+"b"), api.ErrRange)
			if s, e := d.Read(at); s != "" || e != api.ErrRange {
				t.Errorf("read at %d: %q, %d", at, s, e)
			}
		}
		d.Flush()
		if d.Image() != strings.Repeat("\x00", 64*(size-1))+fill("a") {
			t.Error("a write that was refused changed something")
		}
	}
}

// P8.1: ErrDown stands ahead of the other errors, and nothing is changed where the power is off.
func TestOff(t *testing.T) {
	d := made(t, 2)
	d.Write(0, "a")
	d.Flush()
	d.Write(1, "b")
	d.Crash(0, 0)
	for range 2 {
		for _, at := range []int{0, 1, -1, 2, math.MaxInt} {
			is(t, "a write", d.Write(at, "c"), api.ErrDown)
			is(t, "a long write", d.Write(at, full("c")+"c"), api.ErrDown)
			if s, e := d.Read(at); s != "" || e != api.ErrDown {
				t.Errorf("read at %d: %q, %d", at, s, e)
			}
		}
		is(t, "a flush", d.Flush(), api.ErrDown)
		if d.Size() != 2 || !d.Down() {
			t.Error(d.Size(), d.Down())
		}
	}
	keeps(t, d, "a", "")
	is(t, "a flush", d.Flush(), api.OK)
	lasts(t, d, "a", "")
}

// P8.1: of many writes of one sector the last one is seen, and lasts.
func TestInOrder(t *testing.T) {
	d := made(t, 3)
	for _, s := range []string{"a", full("b"), "c", "", "dd", "e"} {
		is(t, "a write", d.Write(1, s), api.OK)
		sees(t, d, "", s, "")
	}
	is(t, "a flush", d.Flush(), api.OK)
	lasts(t, d, "", "e", "")
	is(t, "a flush of nothing", d.Flush(), api.OK)
	lasts(t, d, "", "e", "")
}

// P8.1: a flush lets more writes last than a cut has bits, also of sectors far apart.
func TestManyWait(t *testing.T) {
	for _, n := range []int{63, 64, 65, 66, 128, 200} {
		d := made(t, 250)
		want := make([]string, 250)
		for i := range n {
			at := (i * 7) % 250
			want[at] = strconv.Itoa(i)
			is(t, "a write", d.Write(at, want[at]), api.OK)
		}
		sees(t, d, want...)
		is(t, "a flush", d.Flush(), api.OK)
		lasts(t, d, want...)
		sees(t, d, want...)
		want[3] = "more"
		d.Write(3, "more")
		d.Flush()
		lasts(t, d, want...)
	}
}

// P8.1: however many writes wait, each call ends, and all last once they are flushed.
func TestVeryManyWait(t *testing.T) {
	d := made(t, 5)
	for i := range 1 << 20 {
		if e := d.Write(i%5, strconv.Itoa(i)); e != api.OK {
			t.Fatal(i, e)
		}
	}
	want := []string{"1048575", "1048571", "1048572", "1048573", "1048574"}
	sees(t, d, want...)
	lasts(t, d, "", "", "", "", "")
	is(t, "a flush", d.Flush(), api.OK)
	lasts(t, d, want...)
}

// P8.1: disks are apart.
func TestDisksApart(t *testing.T) {
	a, b := made(t, 1), made(t, 1)
	a.Write(0, "a")
	a.Flush()
	sees(t, b, "")
	b.Arm(api.Cut{At: 1})
	is(t, "a flush of the other one", a.Flush(), api.OK)
	a.Crash(0, 0)
	if b.Down() {
		t.Error("the power of another disk fails")
	}
	lasts(t, a, "a")
	lasts(t, b, "")
}

// P8.1, P8.2: what only asks changes nothing.
func TestAskingChangesNothing(t *testing.T) {
	d := made(t, 2)
	d.Write(0, "a")
	d.Flush()
	d.Write(1, "b")
	d.Arm(api.Cut{At: 1, Keep: 3, Torn: 64})
	for range 100 {
		sees(t, d, "a", "b")
		d.Read(2)
		lasts(t, d, "a", "")
		if d.Down() {
			t.Fatal("the power fails where nothing is written or flushed")
		}
	}
	is(t, "a write", d.Write(0, "c"), api.ErrDown)
	keeps(t, d, "c", "b")
}
