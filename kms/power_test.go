package kms_test

import (
	"maps"
	"math"
	"slices"
	"testing"

	"keyloft/api"
	"keyloft/disk"
	"keyloft/journal"
	"keyloft/kms"
	"keyloft/store"
)

// fails: a request in which the power fails. The service is as it was, or as it is behind it, and goes on from there; it answers whether it is behind it.
func (b *beside) fails(r kms.Req) bool {
	b.t.Helper()
	next := b.s.copied()
	if _, e := next.does(r); e != api.OK {
		b.t.Fatalf("%.300v: %d by the words", r, e)
	}
	if answer, e := b.k.Do(r); answer != "" || e != api.ErrDown {
		b.t.Fatalf("%.300v: %d, %.80q", r, e, answer)
	}
	done := maps.Equal(lying(b.k), next.lies())
	if done {
		b.s = next
	}
	b.same()
	return done
}

// P15.2: the power fails in the write or flush that is told; behind the request it is on, and nothing is armed.
func TestArm(t *testing.T) {
	b := begun(t)
	b.ok(creating("ann"))
	b.k.Arm(api.Cut{At: 1})
	if b.fails(ticking(1)) {
		t.Error("it ticked")
	}
	for range 20 {
		b.ok(ticking(1))
	}
	b.k.Arm(api.Cut{At: 1, Keep: math.MaxUint64, Torn: 64})
	b.k.Arm(api.Cut{At: 1 << 40})
	b.ok(ticking(1))
	for _, at := range []int{0, -1, math.MinInt} {
		b.k.Arm(api.Cut{At: 1})
		b.k.Arm(api.Cut{At: at, Keep: 1, Torn: 1})
		b.ok(ticking(1))
	}
}

// P15.2: a request's writes and flushes are counted on from those ahead of it; a tick lays two sectors: the one behind them, both, and two flushes.
func TestCounted(t *testing.T) {
	for at := 1; at <= 15; at++ {
		b := begun(t)
		b.k.Arm(api.Cut{At: at})
		for range (at - 1) / 5 {
			b.ok(ticking(1))
		}
		if b.fails(ticking(1)) {
			t.Error(at)
		}
		b.ok(ticking(1))
	}
}

// P15.2: what only asks, and what is refused, counts no write and no flush.
func TestNotCounted(t *testing.T) {
	b := begun(t)
	b.ok(creating("ann"))
	sealed := b.ok(encrypting("ann", "k1", "text"))
	b.k.Arm(api.Cut{At: 1})
	for range 3 {
		b.ok(encrypting("ann", "k1", "text"))
		b.ok(decrypting("ann", sealed))
		b.ok(making("ann", "k1", "draw"))
		b.does(creating("Ann"), api.ErrForm)
		b.does(eventing("ann", "k1", 1, 0), api.ErrState)
		b.does(rotating("bob", "k1", "draw"), api.ErrDenied)
		b.does(aliasing("ann", "k1", "k1"), api.ErrExists)
		b.does(unaliasing("ann", "k1"), api.ErrNone)
		b.does(granting("ann", "k1", granted(0, 0)), api.ErrForm)
		b.does(ungranting("ann", "k1", 1), api.ErrNone)
		b.does(rewrapping("ann", "k2"), api.ErrNone)
		b.does(ticking(0), api.ErrRange)
		b.does(kms.Req{}, api.ErrKind)
		b.k.Image()
	}
	b.fails(ticking(1))
}

// P15.2: a Crash between requests loses nothing, starts at once, and nothing is armed behind it.
func TestCrash(t *testing.T) {
	b := begun(t)
	b.k.Crash(0, 0)
	b.same()
	b.ok(creating("ann"))
	sealed := b.ok(encrypting("ann", "k1", "text"))
	for _, keep := range []uint64{0, 1, 1 << 63, math.MaxUint64} {
		for _, torn := range []int{math.MinInt, -1, 0, 1, 63, 64, 65, math.MaxInt} {
			image := b.k.Image()
			b.k.Arm(api.Cut{At: 1})
			b.k.Crash(keep, torn)
			if b.k.Image() != image {
				t.Error("the disk is changed")
			}
			b.same()
			b.ok(ticking(1))
			b.ok(decrypting("ann", sealed))
			b.k.Crash(keep, torn)
			b.k.Crash(keep, torn)
			b.same()
		}
	}
}

// P15.2: Image is that of a disk of 1024 sectors on which the same was done; of what waits when the power fails there lies what the cut says.
func TestImage(t *testing.T) {
	for at := 1; at <= 5; at++ {
		for _, c := range []api.Cut{{}, {Keep: 1}, {Keep: 2, Torn: 64}, {Keep: 3, Torn: 7}, {Keep: math.MaxUint64, Torn: 33}, {Keep: math.MaxUint64, Torn: 64}} {
			c.At = at
			b := begun(t)
			d, s := besideDisk(t, b)
			if b.k.Image() != d.Image() {
				t.Fatal("of a new service")
			}
			b.k.Arm(c)
			d.Arm(c)
			if e := s.Commit(store.Change{Key: "t", Value: 9}); e != api.ErrDown {
				t.Fatal(at, e)
			}
			b.fails(ticking(9))
			if b.k.Image() != d.Image() {
				t.Error(c)
			}
		}
	}
}

// besideDisk: a disk of its own with a new service's store.
func besideDisk(t *testing.T, b *beside) (*disk.Disk, *store.Store) {
	t.Helper()
	d, _ := disk.New(1024)
	j, _ := journal.Open(d)
	s, _ := store.Open(j)
	var l []store.Change
	for _, at := range []string{"d", "d/1", "t", "n"} {
		v, _ := b.k.Get(at)
		l = append(l, store.Change{Key: at, Value: v})
	}
	if e := s.Commit(l...); e != api.OK {
		t.Fatal(e)
	}
	return d, s
}

// P15.2: Keys, Get and Image tell the same behind each failure as behind each start: nothing is forgotten.
func TestAskedBehindFailures(t *testing.T) {
	b := begun(t)
	b.ok(creating("ann"))
	for at := 1; at <= 4; at++ {
		b.k.Arm(api.Cut{At: at, Keep: 0})
		b.fails(aliasing("ann", "k1", "α"))
		if l := b.k.Keys("a/"); len(l) != 0 || !slices.Equal(b.k.Keys("k/"), []string{"k/k1"}) {
			t.Error(at, l)
		}
		if v, ok := b.k.Get("n"); v != 1 || !ok {
			t.Error(at, v)
		}
	}
}
