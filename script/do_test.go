package script_test

import (
	"maps"
	"testing"

	"keyloft/api"
	"keyloft/kms"
	"keyloft/script"
)

// two: services that are told the same, the one by operations, the other by its own calls.
type two struct {
	t *testing.T
	k *kms.Kms
	o *kms.Kms
}

func twoOf(t *testing.T) two {
	t.Helper()
	return two{t, served(t), served(t)}
}

// does: an operation does, and answers, what the service does.
func (x two) does(o script.Op) (string, api.Errno) {
	x.t.Helper()
	var want string
	var f api.Errno
	switch o.Req.Kind {
	case 15:
		x.o.Arm(o.Cut)
	case 16:
		x.o.Crash(o.Cut.Keep, o.Cut.Torn)
	default:
		want, f = x.o.Do(o.Req)
	}
	s, e := script.Do(x.k, o)
	if s != want || e != f {
		x.t.Fatalf("%s: %d, %.80q, by the service %d, %.80q", short(o), e, s, f, want)
	}
	if !maps.Equal(lying(x.k), lying(x.o)) || x.k.Image() != x.o.Image() {
		x.t.Fatalf("%s: it lies otherwise", short(o))
	}
	return s, e
}

// wants: an operation, with this error.
func (x two) wants(o script.Op, want api.Errno) string {
	x.t.Helper()
	s, e := x.does(o)
	if e != want {
		x.t.Fatalf("%s: %d, not %d", short(o), e, want)
	}
	return s
}

func (x two) ok(r kms.Req) string {
	x.t.Helper()
	return x.wants(script.Op{Req: r}, api.OK)
}

// P16.2: each kind answers what the service does, and does it.
func TestDoKinds(t *testing.T) {
	x := twoOf(t)
	if id := x.ok(creating("ann")); id != "k1" {
		t.Error(id)
	}
	context := pairs("a", "1", "b", "2")
	b := x.ok(encrypting("ann", "k1", "text", context...))
	if text := x.ok(decrypting("ann", b, pairs("b", "2", "a", "1")...)); text != "text" {
		t.Errorf("%q", text)
	}
	data := x.ok(making("ann", "k1", "draw", context...))
	if key := x.ok(decrypting("ann", data[32:], context...)); key != data[:32] {
		t.Errorf("%q", key)
	}
	x.ok(rotating("ann", "k1", "more"))
	x.ok(aliasing("ann", "k1", "α"))
	x.ok(granting("ann", "α", granted(7, 2)))
	if text := x.ok(decrypting("bob", b, context...)); text != "text" {
		t.Errorf("%q", text)
	}
	x.ok(ungranting("cy", "α", 7))
	x.ok(unaliasing("ann", "α"))
	x.ok(turning("new"))
	x.ok(rewrapping("ann", "k1"))
	x.ok(ticking(3))
	x.ok(eventing("ann", "k1", 3, 5))
	x.wants(script.Op{Req: decrypting("ann", b, context...)}, api.ErrPending)
	x.ok(ticking(5))
	x.ok(sweeping())
	x.wants(script.Op{Req: decrypting("ann", b, context...)}, api.ErrNone)
}

// P16.2: the service's errors are answered, with nothing beside them.
func TestDoErrors(t *testing.T) {
	x := twoOf(t)
	x.ok(creating("ann"))
	b := x.ok(encrypting("ann", "k1", "text"))
	for _, c := range []struct {
		r    kms.Req
		want api.Errno
	}{
		{creating("Ann"), api.ErrForm}, {encrypting("ann", "k2", "text"), api.ErrNone}, {encrypting("ann", "k1", repeated(1025, "x")), api.ErrLong},
		{decrypting("bob", b), api.ErrDenied}, {decrypting("ann", "b"), api.ErrForm}, {decrypting("ann", b, pairs("a", "1")...), api.ErrCorrupt},
		{eventing("ann", "k1", 5, 0), api.ErrKind}, {eventing("ann", "k1", 2, 0), api.OK}, {eventing("ann", "k1", 4, 0), api.ErrState},
		{ticking(0), api.ErrRange}, {unaliasing("ann", "α"), api.ErrNone}, {granting("ann", "k1", granted(0, 1)), api.ErrForm},
		{aliasing("ann", "k1", "k1"), api.ErrExists},
	} {
		if s := x.wants(script.Op{Req: c.r}, c.want); s != "" {
			t.Errorf("%v: %q", c.r, s)
		}
	}
}

// P16.2: what is of no kind is refused, and changes nothing.
func TestDoNoKinds(t *testing.T) {
	x := twoOf(t)
	x.ok(creating("ann"))
	image := x.k.Image()
	for _, kind := range noKinds() {
		for _, o := range []script.Op{plain(kind), full(kind), {Req: kms.Req{Kind: kind}, Cut: api.Cut{At: 1}}} {
			if s, e := script.Do(x.k, o); e != api.ErrKind || s != "" {
				t.Errorf("%v: %d, %q", o, e, s)
			}
		}
	}
	if x.k.Image() != image {
		t.Error("it is changed")
	}
	x.ok(creating("ann"))
}

// P16.2: 15 arms, and answers nothing; the power fails where the cut says.
func TestDoArm(t *testing.T) {
	downs := 0
	for at := range 8 {
		for _, keep := range []uint64{0, 1, 1 << 63, 1<<64 - 1} {
			x := twoOf(t)
			x.ok(creating("ann"))
			x.wants(arming(1, 0, 0), api.OK)
			if s := x.wants(arming(at, keep, 40), api.OK); s != "" {
				t.Errorf("%q", s)
			}
			if _, e := x.does(of(rotating("ann", "k1", "more"))[0]); e == api.ErrDown {
				downs++
			}
			x.wants(arming(0, keep, 40), api.OK)
			x.ok(creating("ann"))
		}
	}
	if downs < 4 || downs > 28 {
		t.Error(downs)
	}
}

// P16.2: 16 is a crash of the cut's Keep and Torn, whatever its At; it answers nothing, and the service goes on.
func TestDoCrash(t *testing.T) {
	for _, at := range []int{0, 1, -1} {
		x := twoOf(t)
		x.ok(creating("ann"))
		b := x.ok(encrypting("ann", "k1", "text"))
		o := crashing(1<<64-1, 7)
		o.Cut.At = at
		if s := x.wants(o, api.OK); s != "" {
			t.Errorf("%q", s)
		}
		x.ok(rotating("ann", "k1", "more"))
		if text := x.ok(decrypting("ann", b)); text != "text" {
			t.Errorf("%q", text)
		}
	}
}

// P16.2: what an operation has beside that isn't looked at: a request's cut, and what 15 and 16 have else.
func TestDoBeside(t *testing.T) {
	x := twoOf(t)
	o := script.Op{Req: creating("ann"), Cut: api.Cut{At: 1, Keep: 1, Torn: 1}}
	x.wants(o, api.OK)
	x.wants(o, api.OK)
	o.Req.Kind = 16
	x.wants(o, api.OK)
	o.Req.Kind = 15
	x.wants(o, api.OK)
	x.wants(of(creating("ann"))[0], api.ErrDown)
}

// P16.2: operations without a pattern, with failures among them.
func TestDrawnDo(t *testing.T) {
	a := asker{drawer: drawer{mixer(18)}}
	var ends [16]int
	for range 30 {
		x := twoOf(t)
		a.blobs = nil
		for range 200 {
			o := a.op()
			s, e := x.does(o)
			a.learns(o.Req.Kind, s, e)
			ends[e]++
		}
	}
	for _, e := range []api.Errno{api.OK, api.ErrRange, api.ErrForm, api.ErrLong, api.ErrNone, api.ErrExists, api.ErrFull, api.ErrDown, api.ErrCorrupt, api.ErrState, api.ErrDenied, api.ErrExpired, api.ErrPending, api.ErrKind} {
		if ends[e] < 5 {
			t.Errorf("error %d came %d times alone", e, ends[e])
		}
	}
}
