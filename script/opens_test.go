package script_test

import (
	"slices"
	"strconv"
	"testing"

	"keyloft/api"
	"keyloft/blob"
	"keyloft/grant"
	"keyloft/kms"
	"keyloft/script"
)

// sealed: what was encrypted.
type sealed struct {
	b, key, text string
	context      []api.Pair
}

// askable: contexts, one of them in several orders.
func askable() [][]api.Pair {
	return [][]api.Pair{nil, pairs("a", "1"), pairs("a", "2"), pairs("b", "2"), pairs("a", "1", "b", "2"), pairs("b", "2", "a", "1"), pairs("a", "1", "b", "2", "c", ""), pairs("a", "1", "c", "")}
}

// sameContext: the same pairs, in whatever order.
func sameContext(a, b []api.Pair) bool { return samePairs(rising(a), rising(b)) }

// mayOf: may who asks decrypt with a context, of an owner's key with these grants?
func mayOf(owner, who string, grants map[int]grant.Grant, context []api.Pair) bool {
	if who == owner {
		return true
	}
	for _, g := range grants {
		all := !slices.ContainsFunc(g.Need, func(p api.Pair) bool { return !slices.Contains(context, p) })
		if g.Who == who && g.Ops&2 != 0 && all && (!g.Equal || sameContext(context, g.Need)) {
			return true
		}
	}
	return false
}

// vault: a service, whose keys' owners and grants are known.
type vault struct {
	t      *testing.T
	k      *kms.Kms
	owners map[string]string
	grants map[string]map[int]grant.Grant
	all    []sealed
}

func newVault(t *testing.T, owners ...string) *vault {
	t.Helper()
	v := &vault{t: t, k: served(t), owners: map[string]string{}, grants: map[string]map[int]grant.Grant{}}
	for _, owner := range owners {
		id := ok(t, v.k, creating(owner))
		v.owners[id], v.grants[id] = owner, map[int]grant.Grant{}
	}
	return v
}

func (v *vault) grant(id string, g grant.Grant) {
	v.t.Helper()
	ok(v.t, v.k, granting(v.owners[id], id, g))
	v.grants[id][g.Id] = g
}

func (v *vault) ungrant(id string, n int) {
	v.t.Helper()
	ok(v.t, v.k, ungranting(v.owners[id], id, n))
	delete(v.grants[id], n)
}

// seal: a text, and a data key.
func (v *vault) seal(who, id, text string, context []api.Pair) {
	v.t.Helper()
	v.all = append(v.all, sealed{ok(v.t, v.k, encrypting(who, id, text, context...)), id, text, context})
	if who == v.owners[id] {
		data := ok(v.t, v.k, making(who, id, "draw of "+text, context...))
		v.all = append(v.all, sealed{data[32:], id, data[:32], context})
	}
}

// people: who asks.
func people() []string { return []string{"ann", "bob", "cy", "dan", "eve", "Ann", "k1", ""} }

// opens: each text is decrypted by who may with its context, and by nobody else nor with another one; where it can't be used, by nobody.
func (v *vault) opens(what string, used api.Errno) {
	v.t.Helper()
	for _, s := range v.all {
		for _, who := range people() {
			for _, context := range askable() {
				v.opensOne(what, used, s, who, context)
			}
		}
	}
}

func (v *vault) opensOne(what string, used api.Errno, s sealed, who string, context []api.Pair) {
	v.t.Helper()
	want := api.OK
	switch {
	case used == api.ErrNone:
		want = used // it has no such version, which is looked at ahead of who asks
	case !mayOf(v.owners[s.key], who, v.grants[s.key], context):
		want = api.ErrDenied
	case used != api.OK:
		want = used
	case !sameContext(context, s.context):
		want = api.ErrCorrupt
	}
	text, e := script.Do(v.k, script.Op{Req: decrypting(who, s.b, context...)})
	if e != want || e == api.OK && text != s.text || e != api.OK && text != "" {
		v.t.Fatalf("%s: %q with %q, of %q: %d, %.80q, not %d", what, who, context, s.context, e, text, want)
	}
}

// P0.2: what was encrypted is decrypted by who may, with the same context, and by nobody else, nor with another one, whatever was done between.
func TestOpens(t *testing.T) {
	v := newVault(t, "ann", "eve")
	v.grant("k1", grant.Grant{Id: 1, Who: "bob", Ops: 2, Need: pairs("a", "1")})
	v.grant("k1", grant.Grant{Id: 2, Who: "cy", Ops: 255, Need: pairs("a", "1"), Equal: true})
	v.grant("k1", grant.Grant{Id: 3, Who: "dan", Ops: 1 + 4})
	v.grant("k2", grant.Grant{Id: 1, Who: "dan", Ops: 2, Need: pairs("b", "2", "a", "1"), Equal: true})
	for i, context := range askable() {
		v.seal("ann", "k1", "text "+strconv.Itoa(i), context)
		v.seal("eve", "k2", "text of eve "+strconv.Itoa(i), context)
		v.seal("dan", "k1", "text of dan "+strconv.Itoa(i), context)
	}
	v.seal("ann", "k1", "", nil)
	v.seal("ann", "k1", repeated(1024, "long"), pairs("a", "1"))
	v.opens("new", api.OK)
	for _, step := range [][]kms.Req{
		{rotating("ann", "k1", "x"), rotating("eve", "k2", "x")}, {turning("y")}, {rewrapping("ann", "k1")}, {rotating("ann", "k1", "z"), turning("y2")},
		{rewrapping("eve", "k2"), rewrapping("ann", "k1")}, {aliasing("ann", "k1", "α"), creating("bob"), ticking(1 << 20), sweeping()},
	} {
		for _, r := range step {
			ok(t, v.k, r)
		}
		v.opens("behind "+short(step), api.OK)
		script.Do(v.k, crashing(0, 0))
	}
	v.seal("ann", "k1", "new text", pairs("a", "1"))
	v.opens("behind a crash", api.OK)
	v.ungrant("k1", 1)
	v.grant("k1", grant.Grant{Id: 3000, Who: "eve", Ops: 2, Need: pairs("b", "2")})
	v.opens("behind other grants", api.OK)
}

// P0.2: what may not be used is decrypted by nobody; once it may be again, by who may.
func TestOpensInTime(t *testing.T) {
	v := newVault(t, "ann")
	v.grant("k1", grant.Grant{Id: 1, Who: "bob", Ops: 2, Need: pairs("a", "1")})
	v.seal("ann", "k1", "text", pairs("a", "1"))
	for _, step := range []struct {
		r    kms.Req
		used api.Errno
	}{
		{eventing("ann", "k1", 2, 0), api.ErrState}, {eventing("ann", "k1", 1, 0), api.OK}, {eventing("ann", "k1", 6, 5), api.OK},
		{ticking(4), api.OK}, {ticking(1), api.ErrExpired}, {eventing("ann", "k1", 6, 0), api.OK}, {eventing("ann", "k1", 3, 5), api.ErrPending},
		{ticking(4), api.ErrPending}, {sweeping(), api.ErrPending}, {eventing("ann", "k1", 4, 0), api.ErrState}, {eventing("ann", "k1", 1, 0), api.OK},
		{eventing("ann", "k1", 3, 5), api.ErrPending}, {ticking(5), api.ErrPending}, {sweeping(), api.ErrNone}, {ticking(1), api.ErrNone},
	} {
		ok(t, v.k, step.r)
		v.opens("behind "+short(step.r), step.used)
	}
}

// P0.2: drawn grants, texts and changes, some of them with the power failing.
func TestDrawnOpens(t *testing.T) {
	d := drawer{mixer(23)}
	for range 12 {
		v := newVault(t, "ann", "bob")
		for i := range 80 {
			v.changes(d, i)
			script.Do(v.k, arming(0, 0, 0))
			if len(v.all) > 0 {
				for range 40 {
					v.opensOne("drawn", api.OK, v.all[d.draw(len(v.all))], people()[d.draw(8)], askable()[d.draw(8)])
				}
			}
		}
	}
}

// changes: one change, of no grant with a failure, because then it wouldn't be known.
func (v *vault) changes(d drawer, i int) {
	v.t.Helper()
	id := d.one("k1", "k2")
	failing := func(r kms.Req) {
		script.Do(v.k, arming(d.draw(6), uint64(d.draw(8)), d.draw(65)))
		script.Do(v.k, script.Op{Req: r})
	}
	switch d.draw(8) {
	case 0:
		failing(rotating(v.owners[id], id, strconv.Itoa(i)))
	case 1:
		failing(turning(strconv.Itoa(i)))
	case 2:
		failing(rewrapping(v.owners[id], id))
	case 3:
		script.Do(v.k, crashing(uint64(d.draw(4)), d.draw(65)))
	case 4, 5:
		n := 1 + d.draw(5)
		if _, has := v.grants[id][n]; has {
			v.ungrant(id, n)
		} else {
			v.grant(id, grant.Grant{Id: n, Who: d.one("ann", "bob", "cy", "dan"), Ops: d.draw(256), Need: askable()[d.draw(8)], Equal: d.draw(2) == 0})
		}
	default:
		v.seal(v.owners[id], id, "text "+strconv.Itoa(i), askable()[d.draw(8)])
	}
}

// P0.4: a ciphertext tells its key, and the version that was the last one when it was made.
func TestHeads(t *testing.T) {
	k := served(t)
	for range 12 {
		ok(t, k, creating("ann"))
	}
	for version := 1; version <= 8; version++ {
		for key := 1; key <= 12; key++ {
			id := "k" + strconv.Itoa(key)
			b := ok(t, k, encrypting("ann", id, "text"))
			data := ok(t, k, making("ann", id, "draw"))
			for _, b := range []string{b, data[32:]} {
				if h, e := blob.Parse(b); e != api.OK || h.Id != id || h.Version != version {
					t.Fatalf("%s, %d: %d, %v", id, version, e, h)
				}
			}
			if text := ok(t, k, decrypting("ann", b)); text != "text" {
				t.Errorf("%q", text)
			}
			if version < 8 {
				ok(t, k, rotating("ann", id, "x"))
			}
		}
	}
}

// headed: a ciphertext's bytes, with another id and version in its head.
func headed(b, id string, version int) string {
	long := int(b[2])
	return b[:2] + oneByte(len(id)) + id + oneByte(version) + b[3+long+1:]
}

// P0.4: what names no key, or no version of one, is refused; what names another one than its own isn't opened.
func TestHeadsOfNone(t *testing.T) {
	k := served(t)
	for range 3 {
		ok(t, k, creating("ann"))
	}
	ok(t, k, rotating("ann", "k2", "x"))
	ok(t, k, aliasing("ann", "k1", "α"))
	b := ok(t, k, encrypting("ann", "k2", "text"))
	if headed(b, "k2", 2) != b {
		t.Fatalf("%q", b)
	}
	for _, id := range []string{"k4", "k9", "k", "k02", "k22", "2", "α", repeated(32, "k")} {
		for version := 1; version <= 8; version++ {
			fails(t, k, decrypting("ann", headed(b, id, version)), api.ErrNone)
		}
	}
	for version := 3; version <= 8; version++ {
		fails(t, k, decrypting("ann", headed(b, "k2", version)), api.ErrNone)
	}
	for _, version := range []int{0, 9, 255} {
		fails(t, k, decrypting("ann", headed(b, "k2", version)), api.ErrForm)
	}
	for _, other := range []string{headed(b, "k2", 1), headed(b, "k1", 1), headed(b, "k3", 1)} {
		fails(t, k, decrypting("ann", other), api.ErrCorrupt)
	}
	fails(t, k, decrypting("ann", headed(b, "k1", 2)), api.ErrNone)
	for _, id := range []string{"", "K2", "-", repeated(33, "k")} {
		fails(t, k, decrypting("ann", headed(b, id, 1)), api.ErrForm)
	}
}

// P0.4: no text that isn't a whole ciphertext is opened: neither one that is cut, nor one with a changed byte, nor others.
func TestHeadsChanged(t *testing.T) {
	k := served(t)
	ok(t, k, creating("ann"))
	b := ok(t, k, encrypting("ann", "k1", "text"))
	for n := range b {
		if s, e := script.Do(k, script.Op{Req: decrypting("ann", b[:n])}); s != "" || e != api.ErrForm && e != api.ErrCorrupt {
			t.Fatalf("the first %d bytes: %d, %q", n, e, s)
		}
		for by := 1; by < 256; by++ {
			other := []byte(b)
			other[n] ^= byte(by)
			s, e := script.Do(k, script.Op{Req: decrypting("ann", string(other))})
			if s != "" || e != api.ErrForm && e != api.ErrNone && e != api.ErrCorrupt {
				t.Fatalf("%q: %d, %q", other, e, s)
			}
		}
	}
	for _, other := range []string{"", "K", "K1", "text", b + "x", "x" + b, b + b, b[1:], repeated(2000, "K1\x02k1\x01")} {
		if s, e := script.Do(k, script.Op{Req: decrypting("ann", other)}); s != "" || e != api.ErrForm && e != api.ErrCorrupt {
			t.Fatalf("%q: %d, %q", other, e, s)
		}
	}
}
