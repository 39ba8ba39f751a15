package kms_test

import (
	"math"
	"slices"
	"strconv"
	"strings"
	"testing"

	"keyloft/api"
	"keyloft/grant"
	"keyloft/kms"
)

// strangers: who is no owner of ann's keys.
func strangers() []string {
	return []string{"", "bob", "an", "ann ", "Ann", "anna", "k1", "\x00"}
}

// noKeys: names that are none of ann's few keys'.
func noKeys() []string {
	return []string{"", "k", "k0", "k9", "k01", "K1", "k1 ", " k1", "k1/", "k/k1", "\xff", strings.Repeat("k", 70000)}
}

// P15.1: an owner's requests: ErrNone of no key, ErrDenied of another one's.
func TestFoundAndOwned(t *testing.T) {
	b := begun(t)
	b.ok(creating("ann"))
	b.ok(creating("bob"))
	b.ok(granting("ann", "k1", granted(1, 255)))
	for _, of := range []func(who, key string) kms.Req{
		func(who, key string) kms.Req { return eventing(who, key, 2, 0) },
		func(who, key string) kms.Req { return eventing(who, key, 3, 0) },
		func(who, key string) kms.Req { return eventing(who, key, 6, -1) },
		func(who, key string) kms.Req { return rotating(who, key, "draw") },
		func(who, key string) kms.Req { return aliasing(who, key, "k1") },
		func(who, key string) kms.Req { return aliasing(who, key, "new") },
		func(who, key string) kms.Req { return granting(who, key, granted(2, 1)) },
		func(who, key string) kms.Req { return granting(who, key, grant.Grant{}) },
		func(who, key string) kms.Req { return granting(who, key, granted(1, 1)) },
		rewrapping,
	} {
		for _, key := range noKeys() {
			b.does(of("ann", key), api.ErrNone)
			b.does(of("", key), api.ErrNone)
		}
		for _, who := range strangers() {
			b.does(of(who, "k1"), api.ErrDenied)
		}
		b.does(of("ann", "k2"), api.ErrDenied)
	}
}

// P15.1, Event: kinds that have none here go ahead of all, the others' errors come behind who asks.
func TestEventKinds(t *testing.T) {
	b := begun(t)
	b.ok(creating("ann"))
	for _, n := range []int{0, 5, 7, 8, -1, -2, 255, 257, 1<<32 + 1, math.MaxInt, math.MinInt} {
		for _, key := range []string{"k1", "none", ""} {
			for _, who := range []string{"ann", "bob", ""} {
				b.does(eventing(who, key, n, 1), api.ErrKind)
			}
		}
	}
	for _, x := range []struct {
		n, m int
		want api.Errno
	}{
		{1, 0, api.ErrState}, {4, 0, api.ErrState}, {3, 0, api.ErrRange}, {3, 1001, api.ErrRange}, {3, -1, api.ErrRange}, {3, math.MaxInt, api.ErrRange},
		{6, -1, api.ErrRange}, {6, 1<<40 + 1, api.ErrRange}, {6, math.MinInt, api.ErrRange}, {6, 1 << 40, api.OK}, {6, 0, api.OK}, {2, -9, api.OK},
		{2, 0, api.ErrState}, {6, 7, api.OK}, {1, math.MaxInt, api.OK}, {3, 1000, api.OK}, {3, 1, api.ErrState}, {6, 1, api.ErrState}, {4, 3, api.OK},
		{4, 0, api.ErrState}, {3, 1, api.OK}, {2, 0, api.ErrState}, {1, 0, api.ErrState},
	} {
		b.does(eventing("ann", "k1", x.n, x.m), x.want)
	}
	b.ok(ticking(1))
	b.ok(sweeping())
	for _, n := range []int{1, 2, 3, 4, 6} {
		b.does(eventing("ann", "k1", n, 1), api.ErrNone)
		b.does(eventing("bob", "k1", n, 1), api.ErrDenied)
	}
	b.does(eventing("ann", "k1", 3, 0), api.ErrRange)
}

// P15.1, Event: a deadline is told from now on.
func TestDeadlines(t *testing.T) {
	b := begun(t)
	b.ok(ticking(100))
	b.ok(creating("ann"))
	b.ok(eventing("ann", "k1", 3, 7))
	if b.s.keys["k1"].life.Deadline != 107 {
		t.Error(b.s.keys["k1"].life)
	}
	b.ok(ticking(50))
	b.ok(eventing("ann", "k1", 4, 0))
	b.ok(eventing("ann", "k1", 3, 7))
	if b.s.keys["k1"].life.Deadline != 157 {
		t.Error(b.s.keys["k1"].life)
	}
}

// P15.1, Rotate: up to eight versions, each under the domain that is current then; the states in which there comes none.
func TestRotate(t *testing.T) {
	b := begun(t)
	b.ok(creating("ann"))
	b.ok(creating("ann"))
	for n := 2; n <= 8; n++ {
		b.ok(rotating("ann", "k1", "draw"))
		if n%3 == 0 {
			b.ok(turning("turn"))
		}
	}
	b.does(rotating("ann", "k1", "draw"), api.ErrFull)
	b.ok(rotating("ann", "k2", repeated(70000, "long")))
	b.ok(rotating("ann", "k2", ""))
	for _, x := range []struct {
		do   kms.Req
		want api.Errno
	}{{eventing("ann", "k2", 2, 0), api.ErrState}, {eventing("ann", "k2", 3, 1), api.ErrState}, {ticking(1), api.ErrState}, {sweeping(), api.ErrNone}} {
		b.ok(x.do)
		b.does(rotating("ann", "k2", "draw"), x.want)
	}
	b.ok(eventing("ann", "k1", 6, 1))
	b.does(rotating("ann", "k1", "draw"), api.ErrFull)
}

// P15.1, Alias: names that are none, that are aliases, that are ids; which error goes ahead.
func TestAlias(t *testing.T) {
	b := begun(t)
	b.ok(creating("ann"))
	b.ok(creating("bob"))
	for _, name := range append(wrongNames(), "") {
		b.does(aliasing("ann", "k1", name), api.ErrForm)
		b.does(aliasing("bob", "none", name), api.ErrForm)
	}
	for _, name := range rightNames() {
		b.does(aliasing("ann", "none", name), api.ErrNone)
		b.does(aliasing("bob", "k1", name), api.ErrDenied)
		b.ok(aliasing("ann", "k1", name))
		b.does(aliasing("ann", "k1", name), api.ErrExists)
		b.does(aliasing("bob", "k2", name), api.ErrExists)
		b.does(aliasing("bob", "k1", name), api.ErrDenied)
	}
	b.does(aliasing("ann", "k1", "k1"), api.ErrExists)
	b.does(aliasing("ann", "k1", "k2"), api.ErrExists)
	b.ok(aliasing("ann", "a", "of-an-alias"))
	b.does(aliasing("ann", "of-an-alias", "a"), api.ErrExists)
	if b.s.aliases["of-an-alias"] != "k1" {
		t.Error(b.s.aliases)
	}
}

// P15.1: a key is found by its aliases, too, in each request that finds one.
func TestFoundByAlias(t *testing.T) {
	b := begun(t)
	b.ok(creating("ann"))
	b.ok(aliasing("ann", "k1", "α"))
	sealed := b.ok(encrypting("ann", "α", "text"))
	b.ok(decrypting("ann", sealed))
	b.ok(making("ann", "α", "draw"))
	b.ok(rotating("ann", "α", "draw"))
	b.ok(granting("ann", "α", granted(1, 1)))
	b.does(granting("ann", "k1", granted(1, 1)), api.ErrExists)
	b.ok(encrypting("bob", "α", "text"))
	b.ok(turning("draw"))
	b.ok(rewrapping("ann", "α"))
	b.ok(ungranting("cy", "α", 1))
	b.ok(eventing("ann", "α", 3, 1))
	b.ok(ticking(1))
	b.ok(sweeping())
	b.does(encrypting("ann", "α", "text"), api.ErrNone)
	b.does(encrypting("bob", "α", "text"), api.ErrDenied)
	b.ok(aliasing("ann", "α", "β"))
	b.ok(unaliasing("ann", "α"))
	b.does(encrypting("bob", "α", "text"), api.ErrNone)
}

// P15.1: an alias may have the form of an id that there isn't yet; it goes ahead of the id then. Decrypt looks at ids alone.
func TestAliasLikeAnId(t *testing.T) {
	b := begun(t)
	b.ok(creating("ann"))
	b.ok(aliasing("ann", "k1", "k2"))
	if id := b.ok(creating("bob")); id != "k2" {
		t.Error(id)
	}
	b.does(encrypting("bob", "k2", "text"), api.ErrDenied)
	b.ok(encrypting("ann", "k2", "text"))
	key := b.s.keys["k2"].versions[0].key
	sealed := blobOf(key, headOf("k2", 1, "draw"), nil, "of bob")
	if text := b.ok(decrypting("bob", sealed)); text != "of bob" {
		t.Errorf("%q", text)
	}
	b.does(decrypting("ann", sealed), api.ErrDenied)
	b.does(unaliasing("bob", "k2"), api.ErrDenied)
	b.ok(unaliasing("ann", "k2"))
	b.ok(encrypting("bob", "k2", "text"))
	b.does(aliasing("ann", "k1", "k2"), api.ErrExists)
}

// P15.1, Unalias: of what is none, of another one's key.
func TestUnalias(t *testing.T) {
	b := begun(t)
	b.ok(creating("ann"))
	b.ok(creating("bob"))
	b.ok(aliasing("ann", "k1", "α"))
	b.ok(aliasing("bob", "k2", "β"))
	for _, name := range append(append(wrongNames(), noKeys()...), "k1", "k2", "αβ") {
		b.does(unaliasing("ann", name), api.ErrNone)
	}
	for _, who := range strangers() {
		b.does(unaliasing(who, "α"), api.ErrDenied)
	}
	b.does(unaliasing("ann", "β"), api.ErrDenied)
	r := unaliasing("ann", "α")
	r.Key = "k2"
	b.ok(r)
	b.does(unaliasing("ann", "α"), api.ErrNone)
	b.ok(aliasing("bob", "β", "α"))
	b.ok(unaliasing("bob", "α"))
}

// wrongGrants: each wrong in one field alone.
func wrongGrants() []grant.Grant {
	l := []grant.Grant{{}}
	for _, change := range []func(g *grant.Grant){
		func(g *grant.Grant) { g.Id = 0 },
		func(g *grant.Grant) { g.Id = -1 },
		func(g *grant.Grant) { g.Id = 1 << 31 },
		func(g *grant.Grant) { g.Who = "" },
		func(g *grant.Grant) { g.Who = "Bob" },
		func(g *grant.Grant) { g.Retire = "-" },
		func(g *grant.Grant) { g.Ops = 256 },
		func(g *grant.Grant) { g.Ops = -1 },
		func(g *grant.Grant) { g.Need = pairs("", "1") },
		func(g *grant.Grant) { g.Need = pairs("a", "1", "a", "1") },
	} {
		g := granted(1, 1)
		change(&g)
		l = append(l, g)
	}
	return l
}

// P15.1, Grant: such as aren't right, such as are there, and more than 32; which error goes ahead.
func TestGrant(t *testing.T) {
	b := begun(t)
	b.ok(creating("ann"))
	b.ok(creating("ann"))
	b.ok(granting("ann", "k1", granted(1, 1)))
	for _, g := range wrongGrants() {
		b.does(granting("ann", "k1", g), api.ErrForm)
	}
	for n := 2; n <= 32; n++ {
		b.ok(granting("ann", "k1", granted(n*n*n*n*n*n, n)))
	}
	b.does(granting("ann", "k1", granted(64, 7)), api.ErrExists)
	b.does(granting("ann", "k1", granted(65, 7)), api.ErrFull)
	for _, g := range wrongGrants() {
		b.does(granting("ann", "k1", g), api.ErrForm)
	}
	b.ok(ungranting("ann", "k1", 1))
	b.ok(granting("ann", "k1", grant.Grant{Id: 1<<31 - 1, Who: "bob", Ops: 255, Need: largest(8), Equal: true}))
	b.does(granting("ann", "k1", granted(65, 7)), api.ErrFull)
	b.ok(granting("ann", "k2", granted(1, 1)))
	b.ok(eventing("ann", "k2", 3, 1))
	b.ok(granting("ann", "k2", granted(2, 1)))
	b.ok(ticking(1))
	b.ok(sweeping())
	b.ok(granting("ann", "k2", granted(3, 1)))
}

// P15.1, Ungrant: by the owner, by who may retire it, and by nobody else; of none.
func TestUngrant(t *testing.T) {
	b := begun(t)
	b.ok(creating("ann"))
	b.ok(creating("ann"))
	b.ok(granting("ann", "k1", granted(7, 255)))
	b.ok(granting("ann", "k2", granted(8, 255)))
	for _, key := range noKeys() {
		b.does(ungranting("ann", key, 7), api.ErrNone)
	}
	for _, n := range []int{0, -7, 1, 8, 70, 77, 10007, 7 + 1<<32, math.MaxInt, math.MinInt, math.MinInt + 7} {
		b.does(ungranting("ann", "k1", n), api.ErrNone)
		b.does(ungranting("cy", "k1", n), api.ErrNone)
		b.does(ungranting("", "k1", n), api.ErrNone)
	}
	for _, who := range strangers() {
		b.does(ungranting(who, "k1", 7), api.ErrDenied)
	}
	b.ok(ungranting("cy", "k1", 7))
	b.does(ungranting("cy", "k1", 7), api.ErrNone)
	b.ok(ungranting("ann", "k2", 8))
	g := granted(7, 255)
	g.Retire = ""
	b.ok(granting("ann", "k1", g))
	for _, who := range append(strangers(), "cy") {
		b.does(ungranting(who, "k1", 7), api.ErrDenied)
	}
	b.ok(ungranting("ann", "k1", 7))
	b.ok(granting("ann", "k1", grant.Grant{Id: 10000, Who: "bob", Retire: "bob", Ops: 1}))
	b.ok(ungranting("bob", "k1", 10000))
}

// P15.1, Domain: up to eight, by whomever.
func TestDomain(t *testing.T) {
	b := begun(t)
	for n := 2; n <= 8; n++ {
		r := turning("draw " + strconv.Itoa(n/2))
		r.Who = []string{"", "ann", "-"}[n%3]
		b.ok(r)
		b.ok(creating("ann"))
	}
	b.does(turning("draw"), api.ErrFull)
	var domains []int
	for _, id := range []string{"k1", "k2", "k3", "k4", "k5", "k6", "k7"} {
		domains = append(domains, b.s.keys[id].versions[0].domain)
	}
	if !slices.Equal(domains, []int{2, 3, 4, 5, 6, 7, 8}) {
		t.Error(domains)
	}
}

// P15.1, Rewrap: all versions come under the current domain, of whatever state the key is, and those that are there stay.
func TestRewrap(t *testing.T) {
	b := begun(t)
	b.ok(creating("ann"))
	b.ok(creating("ann"))
	for n := range 7 {
		b.ok(turning(strconv.Itoa(n)))
		b.ok(rotating("ann", "k1", strconv.Itoa(n)))
		if n%3 == 1 {
			b.ok(rewrapping("ann", "k1"))
			b.ok(rewrapping("ann", "k1"))
		}
	}
	b.ok(rewrapping("ann", "k1"))
	for _, v := range b.s.keys["k1"].versions {
		if v.domain != 8 {
			t.Error(v.domain)
		}
	}
	for _, do := range []kms.Req{eventing("ann", "k2", 2, 0), eventing("ann", "k2", 6, 1), eventing("ann", "k2", 3, 5), ticking(5), sweeping()} {
		b.ok(do)
		b.ok(rewrapping("ann", "k2"))
	}
}
