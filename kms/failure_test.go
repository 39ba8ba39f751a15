package kms_test

import (
	"math"
	"testing"

	"keyloft/api"
	"keyloft/kms"
	"keyloft/value"
)

// lived: a service with something of everything, and two blobs.
func lived(t *testing.T) (*beside, []string) {
	t.Helper()
	b := begun(t)
	b.ok(creating("ann"))
	b.ok(creating("bob"))
	blobs := []string{b.ok(encrypting("ann", "k1", "first", pairs("a", "1")...))}
	b.ok(turning("second"))
	b.ok(rotating("ann", "k1", "more"))
	blobs = append(blobs, b.ok(encrypting("ann", "k1", "second", pairs("a", "1")...)))
	b.ok(aliasing("ann", "k1", "α"))
	b.ok(granting("ann", "k1", granted(1, 7)))
	b.ok(eventing("bob", "k2", 3, 4))
	b.ok(ticking(4))
	return b, blobs
}

// decrypts: ann has the texts of both blobs.
func decrypts(b *beside, blobs []string) {
	b.t.Helper()
	for i, want := range []string{"first", "second"} {
		if text := b.ok(decrypting("ann", blobs[i], pairs("a", "1")...)); text != want {
			b.t.Errorf("%q, not %q", text, want)
		}
	}
}

// changing: a request of each kind, and sort, that changes something of what lived.
func changing() []kms.Req {
	return []kms.Req{
		creating("ann"), eventing("ann", "k1", 2, 0), eventing("ann", "k1", 3, 7), eventing("bob", "k2", 4, 0), eventing("ann", "k1", 6, 9),
		rotating("ann", "k1", "again"), aliasing("ann", "k1", "β"), unaliasing("ann", "α"), granting("ann", "k1", granted(2, 3)), ungranting("cy", "k1", 1),
		turning("third"), rewrapping("ann", "k1"), ticking(1), sweeping(),
	}
}

// cuts: what may be kept of what waits, and how torn the last of it.
func cuts() []api.Cut {
	return []api.Cut{
		{}, {Keep: 1, Torn: 64}, {Keep: 1, Torn: 63}, {Keep: 2, Torn: 64}, {Keep: 3, Torn: 1}, {Keep: 6, Torn: 40}, {Keep: 0xaaaaaaaaaaaaaaaa, Torn: 64},
		{Keep: math.MaxUint64 - 1, Torn: 64}, {Keep: math.MaxUint64}, {Keep: math.MaxUint64, Torn: 63}, {Keep: math.MaxUint64, Torn: 64},
	}
}

// P15.3: the power fails in each write and flush of each kind of request, with several sorts of what is kept: the service is as it was, or as it is behind it, and the request goes on from there; old blobs are decrypted all along.
func TestEachFailure(t *testing.T) {
	for _, r := range changing() {
		places, dones := steps(t, r), 0
		for at := 1; at <= places; at++ {
			for _, c := range cuts() {
				b, blobs := lived(t)
				c.At = at
				b.k.Arm(c)
				if b.fails(r) {
					dones++
				} else {
					b.ok(r)
				}
				if r.Kind != 5 {
					decrypts(b, blobs)
				}
				b.ok(creating("cy"))
			}
		}
		if places < 4 || dones < 2 || dones > len(cuts())*places*4/5 {
			t.Errorf("kind %d: %d places, %d done", r.Kind, places, dones)
		}
	}
}

// steps: how many writes and flushes a request has.
func steps(t *testing.T, r kms.Req) int {
	for at := 1; ; at++ {
		b, _ := lived(t)
		b.k.Arm(api.Cut{At: at})
		if _, e := b.k.Do(r); e == api.OK {
			return at - 1
		}
	}
}

// P15.3: a Sweep that fails between its two parts, or in the second one, has taken what was due, and it stays gone.
func TestSweepFails(t *testing.T) {
	dones, places := 0, 0
	for at := 1; ; at++ {
		b, blobs := lived(t)
		b.k.Arm(api.Cut{At: at})
		if _, e := b.k.Do(sweeping()); e == api.OK {
			break
		}
		places++
		if stateOf(b, "k2") == 4 {
			dones++
			b.s.sweeps()
			b.does(eventing("bob", "k2", 4, 0), api.ErrNone)
			b.k.Crash(0, 0)
		} else if dones > 0 {
			t.Error("back again:", at)
		}
		b.same()
		b.ok(sweeping())
		b.does(encrypting("bob", "k2", "text"), api.ErrNone)
		decrypts(b, blobs)
	}
	if dones < 4 || dones > places-4 {
		t.Errorf("%d places, gone behind %d", places, dones)
	}
}

// P15.1, P15.3: all keys that are due go at once, or none of them does.
func TestSweepsAtOnce(t *testing.T) {
	for at := 1; ; at++ {
		b := begun(t)
		for i := range 6 {
			id := b.ok(creating("ann"))
			b.ok(eventing("ann", id, 3, 1+i/4))
		}
		b.ok(ticking(1))
		b.k.Arm(api.Cut{At: at, Keep: math.MaxUint64, Torn: 64})
		next := b.s.copied()
		next.sweeps()
		_, e := b.k.Do(sweeping())
		if stateOf(b, "k1") == 4 {
			b.s = next
		}
		b.same()
		if e == api.OK {
			break
		}
	}
}

// stateOf: a key's, as it lies there.
func stateOf(b *beside, id string) int {
	v, _ := b.k.Get("k/" + id)
	n, _ := value.Int(v, 1, 0)
	return n
}

// P15.3: the power fails in each write and flush of a request for which the journal must be made anew.
func TestFailsMadeAnew(t *testing.T) {
	for at := 1; ; at++ {
		b, blobs := lived(t)
		full(b)
		b.k.Arm(api.Cut{At: at, Keep: uint64(at) * 0x9e3779b97f4a7c15, Torn: 7 * at % 65})
		next := b.s.copied()
		next.does(rotating("ann", "k1", "again"))
		if _, e := b.k.Do(rotating("ann", "k1", "again")); e == api.OK {
			b.s = next
			b.same()
			if n := len(texts(b.k.Image())); n != 1 || at < 15 {
				t.Error(n, at)
			}
			return
		} else if e != api.ErrDown {
			t.Fatal(at, e)
		}
		if len(b.k.Keys("")) != len(b.s.lies()) {
			t.Fatal(at)
		}
		if v, _ := b.k.Get("k/k1"); bytesOf(v) != b.s.lies()["k/k1"] {
			b.s = next
		}
		b.same()
		decrypts(b, blobs)
	}
}

// full: ticks, till the next record of a key has no room.
func full(b *beside) {
	b.t.Helper()
	for len(texts(b.k.Image())) > 1 {
		b.ok(ticking(1))
	}
	room := 512 - (len(texts(b.k.Image())[0])+50+63)/64
	for ; room > 2; room -= 2 {
		b.ok(ticking(1))
	}
}

// P15.3, P0.2: what a key encrypted it decrypts, whatever is rotated, wrapped again, aliased and disabled between, as long as it may be used.
func TestDecryptsStill(t *testing.T) {
	b := begun(t)
	b.ok(creating("ann"))
	b.ok(granting("ann", "k1", granted(1, 2)))
	blobs := map[string]string{}
	seal := func(text string) { blobs[text] = b.ok(encrypting("ann", "k1", text, pairs("b", "2", "a", "1")...)) }
	seal("new")
	for _, x := range []struct {
		text string
		r    kms.Req
	}{
		{"rotated", rotating("ann", "k1", "2")}, {"another domain", turning("2")}, {"rotated there", rotating("ann", "k1", "3")}, {"wrapped", rewrapping("ann", "k1")},
		{"another key", creating("bob")}, {"a third domain", turning("2")}, {"a fourth domain", turning("")}, {"rotated again", rotating("ann", "k1", "3")}, {"wrapped again", rewrapping("ann", "k1")},
		{"swept", sweeping()}, {"an alias", aliasing("ann", "k1", "α")}, {"no alias", unaliasing("ann", "α")}, {"later", ticking(1 << 20)}, {"wrapped for nothing", rewrapping("ann", "k1")},
	} {
		b.ok(x.r)
		seal(x.text)
		b.k.Crash(0, 0)
		for text, sealed := range blobs {
			for _, who := range []string{"ann", "bob"} {
				if got := b.ok(decrypting(who, sealed, pairs("a", "1", "b", "2")...)); got != text {
					t.Errorf("%q, not %q", got, text)
				}
				b.does(decrypting(who, sealed, pairs("a", "1")...), api.ErrCorrupt)
			}
			b.does(decrypting("cy", sealed, pairs("a", "1", "b", "2")...), api.ErrDenied)
		}
	}
	b.ok(eventing("ann", "k1", 3, 9))
	b.does(decrypting("ann", blobs["new"], pairs("a", "1", "b", "2")...), api.ErrPending)
	b.ok(eventing("ann", "k1", 4, 0))
	b.does(decrypting("ann", blobs["new"], pairs("a", "1", "b", "2")...), api.ErrState)
	b.ok(eventing("ann", "k1", 1, 0))
	b.ok(decrypting("ann", blobs["new"], pairs("a", "1", "b", "2")...))
}
