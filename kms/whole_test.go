package kms_test

import (
	"testing"

	"keyloft/api"
)

// P15.3: the examples of the whole: who has no grant is denied, and another context is corrupt.
func TestWholeContexts(t *testing.T) {
	b := begun(t)
	if id := b.ok(creating("ann")); id != "k1" {
		t.Error(id)
	}
	sealed := b.ok(encrypting("ann", "k1", "text", pairs("a", "1")...))
	b.does(decrypting("bob", sealed, pairs("a", "1")...), api.ErrDenied)
	b.does(decrypting("ann", sealed, pairs("a", "2")...), api.ErrCorrupt)
}

// P15.3: k1 is rotated, a new domain comes, k1 is wrapped again: the old ciphertext is decrypted still.
func TestWholeRewrap(t *testing.T) {
	b := begun(t)
	b.ok(creating("ann"))
	sealed := b.ok(encrypting("ann", "k1", "text"))
	b.ok(rotating("ann", "k1", "more"))
	b.ok(turning("new"))
	b.ok(rewrapping("ann", "k1"))
	if text := b.ok(decrypting("ann", sealed)); text != "text" {
		t.Errorf("%q", text)
	}
}

// P15.1, P0.3: k1 is scheduled in 5 ticks; 5 ticks and a sweep: ErrNone for ever.
func TestWholeGone(t *testing.T) {
	b := begun(t)
	b.ok(creating("ann"))
	b.ok(eventing("ann", "k1", 3, 5))
	b.ok(ticking(5))
	b.ok(sweeping())
	for range 5 {
		b.does(encrypting("ann", "k1", "text"), api.ErrNone)
		b.ok(ticking(1 << 20))
		b.ok(sweeping())
	}
}

// P15.3: a power failure in a rotation: there is one version more, or there isn't.
func TestWholeRotation(t *testing.T) {
	counts := map[int]int{}
	for at := 1; at <= 8; at++ {
		for _, keep := range []uint64{0, 1, 1<<64 - 1} {
			b := begun(t)
			b.ok(creating("ann"))
			b.k.Arm(api.Cut{At: at, Keep: keep, Torn: 64})
			b.fails(rotating("ann", "k1", "more"))
			counts[len(b.s.keys["k1"].versions)]++
		}
	}
	if counts[1] < 5 || counts[2] < 1 || len(counts) != 2 {
		t.Error(counts)
	}
}
