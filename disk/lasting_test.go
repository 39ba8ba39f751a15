package disk_test

import (
	"math"
	"strconv"
	"testing"

	"keyloft/api"
)

// P8.3: what was flushed lasts, whatever fails, where other sectors are written.
func TestFlushedLasts(t *testing.T) {
	for _, keep := range []uint64{0, 1, 2, 3, 5, 1 << 63, math.MaxUint64} {
		for _, torn := range []int{-1, 0, 1, 33, 64, 65} {
			for at := 1; at <= 6; at++ {
				d := made(t, 3)
				d.Write(0, full("f"))
				d.Write(1, "g")
				is(t, "a flush", d.Flush(), api.OK)
				d.Arm(api.Cut{At: at, Keep: keep, Torn: torn})
				for _, s := range []string{"a", "b", full("c")} {
					d.Write(2, s)
					d.Flush()
				}
				d.Crash(keep, torn)
				d.Start()
				for i, want := range []string{full("f"), "g"} {
					if s, e := d.Read(i); s != fill(want) || e != api.OK {
						t.Fatalf("at %d, kept %d, torn %d: %q, %d", at, keep, torn, s, e)
					}
				}
			}
		}
	}
}

// P8.3: it lasts through failures one behind the other, with nothing written.
func TestLastsThroughFailures(t *testing.T) {
	d := made(t, 2)
	d.Write(0, "a")
	d.Write(1, full("b"))
	d.Flush()
	for i := range 100 {
		if i%3 == 0 {
			d.Arm(api.Cut{At: 1, Keep: math.MaxUint64})
			is(t, "a flush", d.Flush(), api.ErrDown)
		} else {
			d.Crash(uint64(i), i)
		}
		keeps(t, d, "a", full("b"))
	}
}

// P8.3: written again, a sector is behind a failure of the old bytes, of the new ones, or of new ones ahead of old ones; all others stay.
func TestWrittenAgain(t *testing.T) {
	for keep := range uint64(4) {
		for torn := range 65 {
			d := made(t, 3)
			for i := range 3 {
				d.Write(i, full("o"))
			}
			d.Flush()
			d.Write(0, full("n"))
			d.Write(1, full("n"))
			d.Crash(keep, torn)
			want := []string{full("o"), full("o"), full("o")}
			if keep&1 == 1 {
				want[0] = full("n")
			}
			if keep&2 == 2 {
				want[1] = full("n")[:torn] + full("o")[torn:]
			}
			keeps(t, d, want...)
		}
	}
}

// P8.3: a flush behind more writes than there are bits lasts as well.
func TestManyFlushedLast(t *testing.T) {
	d := made(t, 100)
	want := make([]string, 100)
	for i := range 100 {
		want[i] = strconv.Itoa(i)
		d.Write(i, want[i])
	}
	is(t, "a flush", d.Flush(), api.OK)
	for i := range 80 {
		d.Write(99-i, "new")
	}
	d.Crash(0, 0)
	keeps(t, d, want...)
	for range 80 {
		d.Write(0, "new")
	}
	d.Write(50, "new")
	d.Crash(0, 64)
	keeps(t, d, want...)
}

// P8.3: a write isn't flushed by one that comes behind the flush, nor by a flush that fails.
func TestNotFlushed(t *testing.T) {
	d := made(t, 1)
	d.Write(0, "a")
	d.Flush()
	d.Write(0, "b")
	d.Crash(0, 64)
	keeps(t, d, "a")
	d.Write(0, "c")
	d.Arm(api.Cut{At: 1})
	is(t, "a flush", d.Flush(), api.ErrDown)
	keeps(t, d, "a")
}
