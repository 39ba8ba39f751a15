package kms_test

import (
	"math"
	"slices"
	"strings"
	"testing"

	"keyloft/api"
	"keyloft/kms"
)

// P15.1, Tick: 1 to 2^20 ticks.
func TestTick(t *testing.T) {
	b := begun(t)
	for _, n := range []int{0, -1, -1 << 20, 1<<20 + 1, 1 << 21, 1 << 40, 1<<40 + 1, 1<<32 + 1, math.MaxInt, math.MaxInt - 1, math.MinInt, math.MinInt + 1} {
		b.does(ticking(n), api.ErrRange)
	}
	for _, n := range []int{1, 2, 1000, 1<<20 - 1, 1 << 20} {
		b.ok(ticking(n))
		b.does(ticking(math.MaxInt), api.ErrRange)
		b.does(ticking(0), api.ErrRange)
	}
}

// P15.1, Tick: up to the time 2^40, and no further; at the end of time nothing is scheduled any more.
func TestEndOfTime(t *testing.T) {
	b := begun(t)
	b.ok(creating("ann"))
	for range 1<<20 - 1 {
		if _, e := b.k.Do(ticking(1 << 20)); e != api.OK {
			t.Fatal(e)
		}
	}
	b.s.now = 1<<40 - 1<<20
	b.same()
	b.ok(ticking(1<<20 - 3))
	b.does(ticking(4), api.ErrRange)
	b.does(ticking(1<<20), api.ErrRange)
	b.does(eventing("ann", "k1", 3, 4), api.ErrRange)
	b.ok(eventing("ann", "k1", 3, 3))
	b.ok(ticking(2))
	b.ok(sweeping())
	b.does(encrypting("ann", "k1", ""), api.ErrPending)
	b.ok(ticking(1))
	b.does(ticking(1), api.ErrRange)
	b.ok(sweeping())
	b.does(encrypting("ann", "k1", ""), api.ErrNone)
}

// P15.1, Sweep: what is due goes, at its deadline and not ahead of it, with all its versions; all else stays, in whatever state.
func TestSweep(t *testing.T) {
	b := begun(t)
	b.ok(sweeping())
	for i := range 12 {
		b.ok(creating("ann"))
		b.ok(eventing("ann", "k"+digits(i+1), 6, 3*i))
		for range i % 4 {
			b.ok(rotating("ann", "k"+digits(i+1), "draw"))
		}
		b.ok(granting("ann", "k"+digits(i+1), granted(i+1, 255)))
		b.ok(aliasing("ann", "k"+digits(i+1), "alias"+digits(i)))
	}
	b.ok(eventing("ann", "k2", 2, 0))
	for _, id := range []string{"k3", "k11", "k2"} {
		b.ok(eventing("ann", id, 3, 5))
	}
	b.ok(eventing("ann", "k12", 3, 6))
	b.ok(eventing("ann", "k10", 3, 4))
	b.ok(eventing("ann", "k10", 4, 0))
	b.ok(eventing("ann", "k4", 2, 0))
	gone := []int{0, 0, 0, 0, 0, 3, 4, 4}
	for now, n := range gone {
		b.ok(sweeping())
		count := 0
		for _, c := range b.s.keys {
			if c.life.State == 4 {
				count++
			}
		}
		if count != n {
			t.Errorf("at %d: %d", now, count)
		}
		b.ok(ticking(1))
	}
	v, _ := b.k.Get("k/k3")
	if l := v.([]any); !slices.Equal(l[1].([]any), []any{4, 0, 6, 3}) || len(l[2].([]any)) != 0 {
		t.Error(v)
	}
}

func digits(n int) string {
	return strings.TrimLeft(string([]byte{'0' + byte(n/10), '0' + byte(n%10)}), "0")
}

// P15.1, P0.3, Sweep: no text of the journal has what went any more, nor what was changed.
func TestSweptJournal(t *testing.T) {
	b := begun(t)
	for range 20 {
		b.ok(creating("ann"))
	}
	went := b.s.lies()["k/k7"]
	wrapped := went[len(went)-60:]
	has := func() bool {
		return slices.ContainsFunc(texts(b.k.Image()), func(s string) bool { return strings.Contains(s, wrapped) })
	}
	b.ok(eventing("ann", "k7", 3, 1))
	b.ok(sweeping())
	if l := texts(b.k.Image()); !has() || len(l) != 2 {
		t.Error("not yet due:", has(), len(l))
	}
	b.ok(ticking(1))
	b.ok(sweeping())
	if l := texts(b.k.Image()); has() || len(l) != 2 || !strings.HasPrefix(l[0], "l\x10") || !strings.HasPrefix(l[1], "l\x08") {
		t.Errorf("%v, %.300q", has(), l)
	}
}

// P15.1, P0.3: a key that went is gone for ever, whatever is asked.
func TestGoneForEver(t *testing.T) {
	b := begun(t)
	b.ok(creating("ann"))
	b.ok(granting("ann", "k1", granted(1, 255)))
	sealed := b.ok(encrypting("ann", "k1", "text"))
	b.ok(eventing("ann", "k1", 3, 5))
	b.ok(ticking(5))
	b.does(decrypting("ann", sealed), api.ErrPending)
	b.ok(sweeping())
	for range 3 {
		for _, who := range []string{"ann", "bob"} {
			b.does(decrypting(who, sealed), api.ErrNone)
			b.does(encrypting(who, "k1", "text"), api.ErrNone)
			b.does(making(who, "k1", "text"), api.ErrNone)
		}
		b.does(encrypting("eve", "k1", "text"), api.ErrDenied)
		b.does(decrypting("eve", sealed), api.ErrNone)
		for _, n := range []int{1, 2, 3, 4, 6} {
			b.does(eventing("ann", "k1", n, 1), api.ErrNone)
		}
		b.does(rotating("ann", "k1", "draw"), api.ErrNone)
		b.ok(rewrapping("ann", "k1"))
		b.ok(creating("ann"))
		b.ok(turning("draw"))
		b.ok(ticking(1 << 20))
		b.ok(sweeping())
		b.k.Crash(math.MaxUint64, 64)
		b.same()
	}
}

// filled: beside others, so many aliases that no further one has room.
func filled(b *beside) int {
	for i := 0; ; i++ {
		name := repeated(29, "n") + string([]byte{'0' + byte(i/100), '0' + byte(i/10%10), '0' + byte(i%10)})
		image := b.k.Image()
		answer, e := b.k.Do(aliasing("ann", "k1", name))
		if e == api.OK {
			b.s.aliases[name] = "k1"
			continue
		}
		if e != api.ErrFull || answer != "" || b.k.Image() != image || i > 900 {
			b.t.Fatal(i, e)
		}
		b.same()
		return i
	}
}

// P15.1: where the store has no room a request is refused, and nothing is changed; what needs less goes on.
func TestFullDisk(t *testing.T) {
	b := begun(t)
	b.ok(creating("ann"))
	b.ok(granting("ann", "k1", granted(1, 255)))
	sealed := b.ok(encrypting("ann", "k1", "text"))
	if n := filled(b); n < 400 {
		t.Error(n)
	}
	for _, r := range []kms.Req{creating("ann"), aliasing("ann", "k1", repeated(32, "z")), granting("ann", "k1", granted(2, 1)), turning("draw")} {
		for range 3 {
			image := b.k.Image()
			if answer, e := b.k.Do(r); answer != "" || e != api.ErrFull || b.k.Image() != image {
				t.Error(r.Kind, answer, e)
			}
			b.same()
		}
	}
	b.ok(decrypting("bob", sealed))
	for range 300 {
		b.ok(ticking(1))
	}
	b.ok(sweeping())
	b.k.Crash(0, 0)
	b.same()
	for _, name := range slices.Clone(b.k.Keys("a/"))[:10] {
		b.ok(unaliasing("ann", strings.TrimPrefix(name, "a/")))
	}
	b.ok(creating("ann"))
	b.ok(rotating("ann", "k1", "draw"))
}
