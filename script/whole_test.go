package script_test

import (
	"maps"
	"slices"
	"strconv"
	"testing"

	"keyloft/api"
	"keyloft/grant"
	"keyloft/kms"
	"keyloft/script"
)

// The examples of the whole, as scripts that are run.

// P0.2: who has no grant is denied, and another context is corrupt.
func TestWholeContexts(t *testing.T) {
	k := served(t)
	ok(t, k, creating("ann"))
	b := ok(t, k, encrypting("ann", "k1", "text", pairs("a", "1")...))
	runs(t, "contexts", of(creating("ann"), encrypting("ann", "k1", "text", pairs("a", "1")...), decrypting("bob", b, pairs("a", "1")...), decrypting("ann", b, pairs("a", "2")...), decrypting("ann", b, pairs("a", "1")...)),
		api.OK, api.OK, api.ErrDenied, api.ErrCorrupt, api.OK)
}

// P0.2: k1 is rotated, a new domain comes, k1 is wrapped again: the old ciphertext is decrypted still.
func TestWholeRewrap(t *testing.T) {
	k := served(t)
	ok(t, k, creating("ann"))
	b := ok(t, k, encrypting("ann", "k1", "text"))
	k = runs(t, "wrapped again", of(creating("ann"), rotating("ann", "k1", "x"), turning("y"), rewrapping("ann", "k1"), decrypting("ann", b)),
		slices.Repeat([]api.Errno{api.OK}, 5)...)
	if text := ok(t, k, decrypting("ann", b)); text != "text" {
		t.Errorf("%q", text)
	}
}

// P0.3: k1 is scheduled in 5 ticks; 5 ticks and a sweep: ErrNone for ever.
func TestWholeGone(t *testing.T) {
	runs(t, "gone", of(creating("ann"), eventing("ann", "k1", 3, 5), ticking(4), sweeping(), eventing("ann", "k1", 4, 0), eventing("ann", "k1", 3, 5), ticking(5), sweeping(), encrypting("ann", "k1", "text"), eventing("ann", "k1", 4, 0), ticking(1<<20), sweeping(), encrypting("ann", "k1", "text")),
		api.OK, api.OK, api.OK, api.OK, api.OK, api.OK, api.OK, api.OK, api.ErrNone, api.ErrNone, api.OK, api.OK, api.ErrNone)
}

// P16.2: a power failure in a rotation: there is one version more, or there isn't.
func TestWholeRotation(t *testing.T) {
	counts := map[int]int{}
	for at := 1; at <= 8; at++ {
		for _, keep := range []uint64{0, 1, 1<<64 - 1} {
			k, all := script.Run(root(), printed(t, script.Op{Req: creating("ann")}, arming(at, keep, 64), script.Op{Req: rotating("ann", "k1", "x")}, arming(0, 0, 0)))
			v, _ := k.Get("k/k1")
			n := len(v.([]any)[2].([]any))
			counts[n]++
			if all[2] == api.OK && n != 2 || all[2] != api.OK && all[2] != api.ErrDown {
				t.Error(at, keep, all, n)
			}
		}
	}
	if counts[1] < 5 || counts[2] < 1 || len(counts) != 2 {
		t.Error(counts)
	}
}

// P0.1: what is refused, and what only asks, changes nothing: not what lies there, not a byte of the disk.
func TestRefused(t *testing.T) {
	a := asker{drawer: drawer{mixer(20)}}
	var ends [16]int
	for range 40 {
		k := served(t)
		a.blobs = nil
		for range 200 {
			o := a.op()
			lies, image := lying(k), k.Image()
			s, e := script.Do(k, o)
			a.learns(o.Req.Kind, s, e)
			asking := o.Req.Kind >= 2 && o.Req.Kind <= 4
			if e == api.ErrDown && !asking || e == api.OK && !asking {
				continue
			}
			ends[e]++
			if !maps.Equal(lying(k), lies) || k.Image() != image {
				t.Fatalf("%s: %d: it is changed", short(o), e)
			}
			if e != api.OK && s != "" {
				t.Fatalf("%s: %d, and %q beside it", short(o), e, s)
			}
		}
	}
	for _, e := range []api.Errno{api.OK, api.ErrRange, api.ErrForm, api.ErrLong, api.ErrNone, api.ErrExists, api.ErrFull, api.ErrCorrupt, api.ErrState, api.ErrDenied, api.ErrExpired, api.ErrPending, api.ErrKind} {
		if ends[e] < 5 {
			t.Errorf("error %d came %d times alone", e, ends[e])
		}
	}
}

// P0.1: a script without what was refused, and without what only asked, leaves the same.
func TestRefusedLeftOut(t *testing.T) {
	a := asker{drawer: drawer{mixer(21)}}
	for range 60 {
		o := served(t)
		a.blobs = nil
		var all, less []script.Op
		var answers []api.Errno
		size := 2
		for range 255 {
			x := script.Op{Req: a.request()}
			if a.draw(20) == 0 {
				x = crashing(uint64(a.draw(8)), a.draw(65))
			}
			if size += len(opOf(x)); size > 65536 {
				break
			}
			s, e := script.Do(o, x)
			a.learns(x.Req.Kind, s, e)
			all, answers = append(all, x), append(answers, e)
			if asking := x.Req.Kind >= 2 && x.Req.Kind <= 4; e == api.OK && !asking {
				less = append(less, x)
			}
		}
		k, got := script.Run(root(), printed(t, all...))
		again, fine := script.Run(root(), printed(t, less...))
		if !slices.Equal(got, answers) || slices.ContainsFunc(fine, func(e api.Errno) bool { return e != api.OK }) {
			t.Fatalf("%v, not %v; %v", got, answers, fine)
		}
		if k.Image() != again.Image() || !maps.Equal(lying(k), lying(again)) {
			t.Fatalf("%s: it lies otherwise", short(all))
		}
	}
}

// P0.1: what is no script, or can't be told as one, changes no service that there is.
func TestRefusedScripts(t *testing.T) {
	k := served(t)
	ok(t, k, creating("ann"))
	image := k.Image()
	script.Run(root(), "l\x01")
	script.Run(root(), printed(t, of(creating("bob"))...))
	script.Print(plain(17))
	if k.Image() != image {
		t.Error("it is changed")
	}
}

// P0.1: what is refused because the disk has no room changes nothing, and what only asks goes on.
func TestRefusedFull(t *testing.T) {
	k := served(t)
	ok(t, k, creating("ann"))
	ok(t, k, creating("ann"))
	b := ok(t, k, encrypting("ann", "k1", "text"))
	full := 0
	for i := range 64 {
		g := grant.Grant{Id: 1 + i/2, Who: "bob", Ops: 255, Need: largest(8)}
		lies, image := lying(k), k.Image()
		_, e := script.Do(k, script.Op{Req: granting("ann", "k"+strconv.Itoa(1+i%2), g)})
		if e != api.OK && e != api.ErrFull {
			t.Fatal(i, e)
		}
		if e == api.ErrFull {
			full++
			if !maps.Equal(lying(k), lies) || k.Image() != image {
				t.Fatal("it is changed")
			}
			script.Do(k, crashing(0, 0))
		}
		if text := ok(t, k, decrypting("ann", b)); text != "text" {
			t.Fatalf("%q", text)
		}
	}
	if full < 5 || full > 60 {
		t.Error(full)
	}
	ok(t, k, ungranting("ann", "k1", 1))
	ok(t, k, granting("ann", "k1", grant.Grant{Id: 32, Who: "bob", Ops: 255, Need: largest(8)}))
}

// gone: the service has no version of the key, and it can't be used.
func gone(t *testing.T, k *kms.Kms, id string) {
	t.Helper()
	v, has := k.Get("k/" + id)
	if !has {
		t.Fatal("nothing lies there any more")
	}
	l := v.([]any)
	if life := l[1].([]any); life[0] != 4 || len(l[2].([]any)) != 0 {
		t.Fatalf("%v", v)
	}
}

// P0.3: a key that went is gone, whatever is done behind it: no request uses it, none brings it back, and no other one gets its id.
func TestGone(t *testing.T) {
	a := asker{drawer: drawer{mixer(22)}}
	for range 15 {
		k := served(t)
		ok(t, k, creating("ann"))
		ok(t, k, granting("ann", "k1", granted(7, 255)))
		ok(t, k, aliasing("ann", "k1", "α"))
		b := ok(t, k, encrypting("ann", "k1", "text"))
		ok(t, k, rotating("ann", "k1", "x"))
		data := ok(t, k, making("bob", "α", "draw"))[32:]
		ok(t, k, eventing("ann", "k1", 3, 5))
		ok(t, k, ticking(5))
		ok(t, k, sweeping())
		a.blobs = []string{b, data}
		for range 150 {
			o := a.op()
			s, e := script.Do(k, o)
			a.learns(o.Req.Kind, s, e)
			if o.Req.Kind == 1 && s == "k1" {
				t.Fatal("the id came twice")
			}
			gone(t, k, "k1")
			if a.draw(10) > 0 {
				continue
			}
			script.Do(k, arming(0, 0, 0))
			fails(t, k, decrypting("ann", b), api.ErrNone)
			fails(t, k, decrypting("ann", data), api.ErrNone)
			fails(t, k, decrypting("bob", data), api.ErrNone)
			fails(t, k, decrypting("eve", b), api.ErrNone)
			fails(t, k, encrypting("ann", "k1", "text"), api.ErrNone)
			fails(t, k, making("ann", "k1", "draw"), api.ErrNone)
			fails(t, k, rotating("ann", "k1", "x"), api.ErrNone)
			for _, n := range []int{1, 2, 3, 4, 6} {
				fails(t, k, eventing("ann", "k1", n, 1), api.ErrNone)
			}
		}
	}
}

// P0.3: nothing that goes lies under any key, nor does what wasn't due go.
func TestGoneAlone(t *testing.T) {
	k := served(t)
	ids := []string{"k1", "k2", "k3", "k4"}
	var blobs []string
	for i, id := range ids {
		ok(t, k, creating("ann"))
		ok(t, k, rotating("ann", id, "x"))
		blobs = append(blobs, ok(t, k, encrypting("ann", id, "text")))
		if i != 1 {
			ok(t, k, eventing("ann", id, 3, 10*(i+1)))
		}
	}
	ok(t, k, eventing("ann", "k4", 4, 0))
	ok(t, k, eventing("ann", "k4", 1, 0))
	for i, want := range []int{0, 1, 1, 2, 2, 2} {
		ok(t, k, sweeping())
		count := 0
		for j, id := range ids {
			v, _ := k.Get("k/" + id)
			if len(v.([]any)[2].([]any)) == 0 {
				gone(t, k, id)
				count++
				fails(t, k, decrypting("ann", blobs[j]), api.ErrNone)
			}
		}
		if count != want {
			t.Errorf("after %d ticks %d are gone", 10*i, count)
		}
		ok(t, k, ticking(10))
		script.Do(k, crashing(0, 0))
	}
	for _, j := range []int{1, 3} {
		if text := ok(t, k, decrypting("ann", blobs[j])); text != "text" {
			t.Errorf("%q", text)
		}
	}
}
