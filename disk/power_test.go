package disk_test

import (
	"math"
	"strconv"
	"testing"

	"keyloft/api"
	"keyloft/disk"
)

// P8.2: the chapter's example.
func TestExample(t *testing.T) {
	d := made(t, 1)
	d.Write(0, "ab")
	d.Crash(1, 1)
	d.Start()
	if s, e := d.Read(0); s[:2] != "a\x00" || s != fill("a") || e != api.OK {
		t.Errorf("%q, %d", s, e)
	}
}

// P8.2: each number of first bytes that the last write is torn at, over what lasted.
func TestTorn(t *testing.T) {
	for torn := -2; torn <= 66; torn++ {
		d := made(t, 2)
		d.Write(0, full("o"))
		d.Flush()
		d.Write(1, "whole")
		d.Write(0, full("n"))
		d.Crash(3, torn)
		first := min(max(torn, 0), 64)
		keeps(t, d, full("n")[:first]+full("o")[first:], "whole")
	}
}

// P8.2: other numbers count as the nearer of 0 and 64.
func TestTornFarOut(t *testing.T) {
	for torn, want := range map[int]string{-1: "o", math.MinInt: "o", -1 << 32: "o", 65: "n", 128: "n", 1 << 32: "n", 1<<32 + 1: "n", math.MaxInt: "n"} {
		for _, armed := range []bool{false, true} {
			d := made(t, 1)
			d.Write(0, "o")
			d.Flush()
			d.Write(0, "n")
			if armed {
				d.Arm(api.Cut{At: 1, Keep: 1, Torn: torn})
				d.Flush()
			} else {
				d.Crash(1, torn)
			}
			keeps(t, d, want)
		}
	}
}

// P8.2: a torn write ends with what lasts, also what fills it up, and what an earlier one of the kept leaves there.
func TestTornOverOthers(t *testing.T) {
	d := made(t, 1)
	d.Write(0, full("o"))
	d.Flush()
	d.Write(0, "ab")
	d.Crash(1, 4)
	keeps(t, d, "ab\x00\x00"+full("o")[4:])
	d.Write(0, full("p"))
	d.Write(0, full("q"))
	d.Write(0, full("r"))
	d.Crash(5, 3)
	keeps(t, d, "rrr"+full("p")[3:])
	d.Write(0, full("p"))
	d.Write(0, full("q"))
	d.Crash(2, 1)
	keeps(t, d, "qrr"+full("p")[3:])
}

// P8.2: all bits of five writes: of a sector each, and of one sector.
func TestKeep(t *testing.T) {
	for keep := range uint64(1 << 5) {
		apart, one := made(t, 5), made(t, 1)
		want := make([]string, 5)
		last := ""
		for i := range 5 {
			s := full(string(rune('a' + i)))
			apart.Write(i, s)
			one.Write(0, s)
			if keep>>i&1 == 1 {
				want[i], last = s, s
			}
		}
		apart.Crash(keep, 64)
		keeps(t, apart, want...)
		one.Crash(keep, 64)
		keeps(t, one, last)
	}
}

// P8.2: only the last write that waits is torn, whatever others are kept, and only if it is kept.
func TestOnlyTheLastIsTorn(t *testing.T) {
	for keep := range uint64(1 << 4) {
		d := made(t, 4)
		want := make([]string, 4)
		for i := range 4 {
			d.Write(i, "abcd")
			if keep>>i&1 == 1 {
				want[i] = "abcd"
			}
		}
		if want[3] != "" {
			want[3] = "ab"
		}
		d.Crash(keep, 2)
		keeps(t, d, want...)
	}
}

// P8.2: bits beyond those that wait mean nothing.
func TestBitsBeyond(t *testing.T) {
	d := made(t, 2)
	d.Write(0, "a")
	d.Crash(math.MaxUint64-1, 64)
	keeps(t, d, "", "")
	d.Write(0, "a")
	d.Crash(math.MaxUint64, 64)
	keeps(t, d, "a", "")
	d.Crash(math.MaxUint64, 64)
	keeps(t, d, "a", "")
}

// P8.2: of writes from the number 64 on none is kept; of so many the last one with a bit is torn only if none stands behind it.
func TestMoreThanBits(t *testing.T) {
	for _, n := range []int{62, 63, 64, 65, 66, 127, 128, 129, 200} {
		for _, torn := range []int{0, 1, 64} {
			d := made(t, 200)
			want := make([]string, 200)
			for i := range n {
				d.Write(i, "xy")
				if i < 64 {
					want[i] = "xy"
				}
			}
			if n <= 64 {
				want[n-1] = "xy"[:min(torn, 2)]
			}
			d.Crash(math.MaxUint64, torn)
			keeps(t, d, want...)
		}
	}
}

// P8.2: each bit, with more writes waiting than there are bits: that one write is kept whole.
func TestEachBit(t *testing.T) {
	for bit := range 64 {
		d := made(t, 70)
		for i := range 70 {
			d.Write(i, "x")
		}
		want := make([]string, 70)
		want[bit] = "x"
		d.Crash(1<<bit, 0)
		keeps(t, d, want...)
	}
}

// P8.2: writes are numbered from the last flush or failure on.
func TestNumberedAnew(t *testing.T) {
	d := made(t, 3)
	d.Write(0, "a")
	d.Flush()
	d.Write(1, "b")
	d.Write(2, "c")
	d.Crash(1, 0)
	keeps(t, d, "a", "b", "")
	d.Write(2, "d")
	d.Write(0, "e")
	d.Crash(1, 0)
	keeps(t, d, "a", "b", "d")
}

// P8.2: writes that are refused neither wait nor have a number.
func TestRefusedDontWait(t *testing.T) {
	d := made(t, 2)
	d.Write(0, "a")
	d.Write(2, "no")
	d.Write(-1, "no")
	d.Write(0, full("n")+"o")
	d.Write(1, "b")
	d.Write(5, "no")
	d.Crash(2, 64)
	keeps(t, d, "", "b")
}

// P8.2: nothing waits behind a failure, in which it is kept or not.
func TestNothingWaitsThen(t *testing.T) {
	for _, keep := range []uint64{0, 1, 2, 3} {
		d := made(t, 2)
		d.Write(0, "a")
		d.Write(1, "b")
		d.Crash(keep, 64)
		image := d.Image()
		d.Start()
		is(t, "a flush", d.Flush(), api.OK)
		if d.Image() != image {
			t.Errorf("kept by %d: what waited ahead of the failure lasts behind it", keep)
		}
	}
}

// P8.2: where the power is off a crash is nothing: what was kept stays, and what is armed, too.
func TestCrashWhereOff(t *testing.T) {
	d := made(t, 1)
	d.Write(0, "a")
	d.Crash(0, 0)
	d.Crash(1, 64)
	d.Arm(api.Cut{At: 2, Keep: 1, Torn: 1})
	d.Crash(1, 64)
	keeps(t, d, "")
	is(t, "a write", d.Write(0, "bc"), api.OK)
	is(t, "a flush", d.Flush(), api.ErrDown)
	keeps(t, d, "b")
}

// P8.2: where the power is on, starting is nothing: what waits waits, and what is armed stays so.
func TestStartWhereOn(t *testing.T) {
	d := made(t, 2)
	d.Start()
	d.Arm(api.Cut{At: 3, Keep: 2, Torn: 64})
	d.Write(0, "a")
	d.Start()
	d.Write(1, "b")
	d.Start()
	sees(t, d, "a", "b")
	lasts(t, d, "", "")
	is(t, "the third one", d.Flush(), api.ErrDown)
	d.Start()
	if d.Down() {
		t.Error("it doesn't start")
	}
	sees(t, d, "", "b")
}

// calls: so many writes and flushes by turns (a write first, if first is 0); how many went well until one is answered with ErrDown.
func calls(t *testing.T, d *disk.Disk, first, most int) int {
	t.Helper()
	for i := range most {
		var e api.Errno
		if (i+first)%2 == 0 {
			e = d.Write(0, strconv.Itoa(i))
		} else {
			e = d.Flush()
		}
		if e == api.ErrDown {
			return i
		}
		is(t, "a call", e, api.OK)
	}
	return most
}

// P8.2: the power fails in just that write or flush, counted from 1 on.
func TestArm(t *testing.T) {
	for at := 1; at <= 20; at++ {
		for first := range 2 {
			d := made(t, 1)
			calls(t, d, 0, 5)
			d.Arm(api.Cut{At: at})
			if n := calls(t, d, first, 40); n != at-1 || !d.Down() {
				t.Errorf("at %d: %d went well, down %v", at, n, d.Down())
			}
			d.Start()
			if n := calls(t, d, first, 100); n != 100 {
				t.Errorf("armed still behind the failure: %d", n)
			}
		}
	}
}

// P8.2: a cut of no number arms with nothing, also where something was armed.
func TestArmWithNothing(t *testing.T) {
	for _, at := range []int{0, -1, -2, math.MinInt, -1 << 32} {
		d := made(t, 1)
		d.Arm(api.Cut{At: at, Keep: 1, Torn: 64})
		if n := calls(t, d, 0, 100); n != 100 {
			t.Errorf("at %d: %d", at, n)
		}
		d.Arm(api.Cut{At: 3})
		calls(t, d, 0, 2)
		d.Arm(api.Cut{At: at})
		if n := calls(t, d, 0, 100); n != 100 {
			t.Errorf("at %d, armed ahead: %d", at, n)
		}
	}
}

// P8.2: armed anew, it is counted anew, and the earlier cut is gone.
func TestArmAnew(t *testing.T) {
	d := made(t, 2)
	d.Arm(api.Cut{At: 4, Keep: 0})
	calls(t, d, 0, 3)
	d.Arm(api.Cut{At: 4, Keep: 1, Torn: 1})
	if n := calls(t, d, 1, 3); n != 3 {
		t.Fatal(n)
	}
	is(t, "the fourth", d.Write(1, "xy"), api.ErrDown)
	keeps(t, d, "1", "x")
	d.Arm(api.Cut{At: math.MaxInt})
	if n := calls(t, d, 0, 1000); n != 1000 {
		t.Error(n)
	}
}

// P8.2: a write in which the power fails waits, too; it is the last one.
func TestFailingWrite(t *testing.T) {
	for torn := range 4 {
		for keep := range uint64(4) {
			d := made(t, 2)
			d.Write(0, "abc")
			d.Arm(api.Cut{At: 1, Keep: keep, Torn: torn})
			is(t, "a write", d.Write(1, "def"), api.ErrDown)
			var want [2]string
			if keep&1 == 1 {
				want[0] = "abc"
			}
			if keep&2 == 2 {
				want[1] = "def"[:torn]
			}
			keeps(t, d, want[:]...)
		}
	}
}

// P8.2: so is that of the number 63; none behind it is kept.
func TestFailingWriteAtTheLastBit(t *testing.T) {
	for n, want := range map[int]string{62: "de", 63: "de", 64: "", 65: ""} {
		d := made(t, 2)
		d.Write(0, "a")
		for range n - 1 {
			d.Write(0, "abc")
		}
		d.Arm(api.Cut{At: 1, Keep: math.MaxUint64, Torn: 2})
		is(t, "a write", d.Write(1, "def"), api.ErrDown)
		keeps(t, d, "abc", want)
	}
}

// P8.2: in a flush that fails what waits is kept as the cut says, the last one torn.
func TestFailingFlush(t *testing.T) {
	for torn := range 4 {
		for keep := range uint64(4) {
			d := made(t, 2)
			d.Arm(api.Cut{At: 3, Keep: keep, Torn: torn})
			d.Write(0, "abc")
			d.Write(1, "def")
			is(t, "a flush", d.Flush(), api.ErrDown)
			var want [2]string
			if keep&1 == 1 {
				want[0] = "abc"
			}
			if keep&2 == 2 {
				want[1] = "def"[:torn]
			}
			keeps(t, d, want[:]...)
		}
	}
	d := made(t, 1)
	d.Arm(api.Cut{At: 1, Keep: 1, Torn: 64})
	is(t, "a flush of nothing", d.Flush(), api.ErrDown)
	keeps(t, d, "")
}

// P8.2: what is refused isn't counted, nor is what only asks.
func TestRefusedArentCounted(t *testing.T) {
	d := made(t, 1)
	d.Arm(api.Cut{At: 2, Keep: 3, Torn: 64})
	for range 5 {
		is(t, "no sector", d.Write(1, "a"), api.ErrRange)
		is(t, "a long text", d.Write(0, full("a")+"a"), api.ErrLong)
		d.Read(0)
		d.Image()
		d.Size()
	}
	is(t, "the first one", d.Write(0, "b"), api.OK)
	is(t, "no sector", d.Write(-1, "a"), api.ErrRange)
	is(t, "a long text", d.Write(0, full("a")+"a"), api.ErrLong)
	sees(t, d, "b")
	is(t, "the second one", d.Write(0, "c"), api.ErrDown)
	keeps(t, d, "c")
}

// P8.2: armed where the power is off, it is counted from when the power is on.
func TestArmWhereOff(t *testing.T) {
	d := made(t, 1)
	d.Crash(0, 0)
	d.Arm(api.Cut{At: 2, Keep: 3, Torn: 64})
	for range 5 {
		is(t, "a write", d.Write(0, "a"), api.ErrDown)
		is(t, "a flush", d.Flush(), api.ErrDown)
	}
	d.Start()
	is(t, "the first one", d.Write(0, "b"), api.OK)
	is(t, "the second one", d.Flush(), api.ErrDown)
	keeps(t, d, "b")
	is(t, "a write", d.Write(0, "c"), api.OK)
	d.Crash(0, 0)
	d.Arm(api.Cut{At: 1})
	d.Arm(api.Cut{})
	d.Start()
	if n := calls(t, d, 0, 100); n != 100 {
		t.Error(n)
	}
}

// P8.2: behind a crash nothing is armed.
func TestCrashDisarms(t *testing.T) {
	d := made(t, 1)
	d.Arm(api.Cut{At: 1})
	d.Crash(0, 0)
	d.Start()
	if n := calls(t, d, 0, 100); n != 100 {
		t.Error(n)
	}
}

// P8.2: the image is of what lasts, and there where the power is off, too.
func TestImage(t *testing.T) {
	d := made(t, 3)
	lasts(t, d, "", "", "")
	d.Write(2, full("z"))
	d.Write(0, "a")
	lasts(t, d, "", "", "")
	d.Flush()
	d.Write(1, "b")
	lasts(t, d, "a", "", full("z"))
	d.Crash(0, 0)
	lasts(t, d, "a", "", full("z"))
	d.Start()
	lasts(t, d, "a", "", full("z"))
}
