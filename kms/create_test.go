package kms_test

import (
	"math"
	"strconv"
	"testing"

	"keyloft/api"
	"keyloft/kms"
)

// P15.1, Create: who asks must have a name; that is looked at ahead of whether there is room.
func TestCreate(t *testing.T) {
	b := begun(t)
	for _, who := range append(wrongNames(), "") {
		b.does(creating(who), api.ErrForm)
	}
	for i, who := range rightNames() {
		if id := b.ok(creating(who)); id != "k"+strconv.Itoa(i+1) {
			t.Errorf("%q: %q", who, id)
		}
	}
	for i := len(rightNames()); i < 32; i++ {
		b.ok(kms.Req{Kind: 1, Who: "ann", Draw: strconv.Itoa(i), Key: "k1", Name: "-", Text: "\xff", N: -1, M: -1})
	}
	b.does(creating("ann"), api.ErrFull)
	b.does(creating(""), api.ErrForm)
	b.does(creating("Ann"), api.ErrForm)
}

// P15.1, Create: a version is made under the domain that is current, of the draw, of the id, and of nothing else.
func TestCreateUnderDomains(t *testing.T) {
	b := begun(t)
	for _, draw := range []string{"", "same", "same", "\x00", repeated(70000, "long")} {
		for _, who := range []string{"ann", "bob"} {
			b.ok(kms.Req{Kind: 1, Who: who, Draw: draw})
		}
		b.ok(turning(draw))
	}
}

// P15.1, Create: what went is a key still, whose id is never another one's.
func TestCreateBehindGone(t *testing.T) {
	b := begun(t)
	for range 32 {
		b.ok(creating("ann"))
	}
	b.ok(eventing("ann", "k32", 3, 1))
	b.ok(eventing("ann", "k5", 3, 1))
	b.ok(ticking(1))
	b.ok(sweeping())
	b.does(creating("ann"), api.ErrFull)

	b = begun(t)
	b.ok(creating("ann"))
	b.ok(eventing("ann", "k1", 3, 1))
	b.ok(ticking(1))
	b.ok(sweeping())
	if id := b.ok(creating("ann")); id != "k2" {
		t.Error(id)
	}
}

// P15.1: kinds that there are not.
func TestWrongKinds(t *testing.T) {
	b := begun(t)
	b.ok(creating("ann"))
	for _, kind := range []int{0, -1, -2, -14, 15, 16, 17, 255, 256, 257, 1<<32 + 1, 1<<32 + 2, math.MaxInt, math.MinInt, math.MinInt + 1} {
		b.does(kms.Req{Kind: kind, Who: "ann", Key: "k1", Name: "b", Text: "text", Draw: "draw", Grant: granted(1, 1), N: 1, M: 1}, api.ErrKind)
		b.does(kms.Req{Kind: kind}, api.ErrKind)
	}
}

// P15.1, P15.3: what comes with a request is neither changed nor kept.
func TestNotKept(t *testing.T) {
	b := begun(t)
	b.ok(creating("ann"))
	need := append(make([]api.Pair, 0, 8), pairs("b", "2", "a", "1")...)
	g := granted(1, 255)
	g.Need = need
	b.ok(granting("ann", "k1", g))
	kept := g
	kept.Need = pairs("a", "1", "b", "2")
	b.s.keys["k1"].grants[1] = kept
	need[0], need[1] = api.Pair{Key: "x", Value: "y"}, api.Pair{Key: "z"}
	b.same()
	context := append(make([]api.Pair, 0, 8), pairs("b", "2", "a", "1", "c", "")...)
	sealed := b.ok(encrypting("bob", "k1", "text", context...))
	b.ok(decrypting("bob", sealed, context...))
	b.ok(making("bob", "k1", "draw", context...))
	spare := context[:8]
	for i, p := range append(pairs("b", "2", "a", "1", "c", ""), make([]api.Pair, 5)...) {
		if spare[i] != p {
			t.Error(i, spare[i])
		}
	}
}
