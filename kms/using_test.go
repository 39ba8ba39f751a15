package kms_test

import (
	"slices"
	"strings"
	"testing"

	"keyloft/api"
	"keyloft/grant"
	"keyloft/kms"
)

// asking: a request of each of the three operations, by its number, with a blob that was made with the same context.
func asking(op int, who, key, sealed string, context []api.Pair) kms.Req {
	switch op {
	case 0:
		return encrypting(who, key, "a text", context...)
	case 1:
		return decrypting(who, sealed, context...)
	}
	return making(who, key, "a draw", context...)
}

// P15.1, Encrypt, Decrypt and Data: texts of all lengths about the edges, contexts in whatever order, any draws.
func TestTexts(t *testing.T) {
	b := begun(t)
	b.ok(creating("ann"))
	for _, context := range [][]api.Pair{nil, pairs("a", "1"), pairs("b", "", "a", "1"), largest(8)} {
		turned := slices.Clone(context)
		slices.Reverse(turned)
		for _, text := range []string{"", "a", "text", "\x00\xff", repeated(15, "x"), repeated(16, "x"), repeated(17, "x"), repeated(1023, "xy"), repeated(1024, "xyz")} {
			sealed := b.ok(encrypting("ann", "k1", text, context...))
			if got := b.ok(decrypting("ann", sealed, turned...)); got != text {
				t.Errorf("%q", got)
			}
		}
		for _, long := range []int{1025, 1026, 2048, 65536, 1 << 17} {
			b.does(encrypting("ann", "k1", repeated(long, "x"), context...), api.ErrLong)
		}
		for _, draw := range []string{"", "draw", repeated(70000, "long"), "\x00"} {
			r := encrypting("ann", "k1", "text", context...)
			r.Draw = draw
			b.ok(r)
			made := b.ok(making("ann", "k1", draw, context...))
			if got := b.ok(decrypting("ann", made[32:], turned...)); got != made[:32] {
				t.Errorf("%q", got)
			}
		}
	}
}

// P15.1, Data: its text and the other fields are not looked at.
func TestOtherFields(t *testing.T) {
	b := begun(t)
	b.ok(creating("ann"))
	made := b.ok(making("ann", "k1", "draw"))
	r := making("ann", "k1", "draw")
	r.Text, r.Name, r.N, r.M = repeated(2000, "x"), "-", -1, 99
	if got := b.ok(r); got != made {
		t.Errorf("%q", got)
	}
	sealed := b.ok(encrypting("ann", "k1", "text"))
	r = decrypting("ann", sealed)
	r.Key, r.Name, r.Draw, r.N = "none", "none", "draw", 7
	b.ok(r)
}

// P15.1: who asks must be the owner, or have a grant that has the operation's bit, whose context is met.
func TestMayDo(t *testing.T) {
	b := begun(t)
	b.ok(creating("ann"))
	b.ok(creating("eve"))
	one, two := pairs("a", "1"), pairs("a", "1", "b", "2")
	for ops := range 256 {
		for _, equal := range []bool{false, true} {
			b.ok(granting("ann", "k1", grant.Grant{Id: 7, Who: "bob", Retire: "cy", Ops: ops, Need: one, Equal: equal}))
			for op := range 3 {
				for _, context := range [][]api.Pair{nil, one, two, pairs("a", "2")} {
					sealed := b.ok(encrypting("ann", "k1", "a text", context...))
					meets := slices.Equal(context, one) || !equal && slices.Equal(context, two)
					want := api.ErrDenied
					if meets && ops&(1<<op) != 0 {
						want = api.OK
					}
					b.does(asking(op, "bob", "k1", sealed, context), want)
					b.ok(asking(op, "ann", "k1", sealed, context))
				}
			}
			b.ok(ungranting("ann", "k1", 7))
		}
	}
	sealed := b.ok(encrypting("ann", "k1", "a text"))
	for _, who := range []string{"", "cy", "eve", "k1", "an", "ann ", "Ann", "bob"} {
		for op := range 3 {
			b.does(asking(op, who, "k1", sealed, nil), api.ErrDenied)
		}
	}
}

// P15.1: several grants are looked through, of that key alone, until they go.
func TestGrantsOfTheKey(t *testing.T) {
	b := begun(t)
	for range 12 {
		b.ok(creating("ann"))
	}
	b.ok(granting("ann", "k1", granted(1, 1)))
	b.ok(granting("ann", "k1", granted(10000, 2)))
	b.ok(granting("ann", "k11", granted(2, 4)))
	ofOne, ofEleven := b.ok(encrypting("ann", "k1", "text")), b.ok(encrypting("ann", "k11", "text"))
	for _, x := range []struct {
		op   int
		key  string
		blob string
		want api.Errno
	}{
		{0, "k1", "", api.OK}, {1, "", ofOne, api.OK}, {2, "k1", "", api.ErrDenied},
		{0, "k11", "", api.ErrDenied}, {1, "", ofEleven, api.ErrDenied}, {2, "k11", "", api.OK},
		{0, "k2", "", api.ErrDenied}, {0, "k12", "", api.ErrDenied},
	} {
		b.does(asking(x.op, "bob", x.key, x.blob, nil), x.want)
	}
	b.ok(ungranting("ann", "k1", 1))
	b.does(asking(0, "bob", "k1", "", nil), api.ErrDenied)
	b.ok(asking(1, "bob", "", ofOne, nil))
	b.ok(ungranting("ann", "k1", 10000))
	b.does(asking(1, "bob", "", ofOne, nil), api.ErrDenied)
}

// P15.1: a context that is none is denied, the owner, too.
func TestNoContexts(t *testing.T) {
	b := begun(t)
	b.ok(creating("ann"))
	b.ok(granting("ann", "k1", granted(1, 255)))
	sealed := b.ok(encrypting("ann", "k1", "text"))
	for _, context := range noContexts() {
		for op := range 3 {
			b.does(asking(op, "ann", "k1", sealed, context), api.ErrDenied)
			b.does(asking(op, "bob", "k1", sealed, context), api.ErrDenied)
		}
	}
}

// P15.1, P0.2: with another context, of whomever, it isn't decrypted; nor where a bit is turned.
func TestCorrupt(t *testing.T) {
	b := begun(t)
	b.ok(creating("ann"))
	b.ok(creating("ann"))
	b.ok(rotating("ann", "k1", "more"))
	b.ok(granting("ann", "k1", granted(1, 2)))
	context := pairs("a", "1", "b", "2")
	sealed := b.ok(encrypting("ann", "k1", "text", context...))
	for _, other := range [][]api.Pair{nil, context[:1], context[1:], pairs("a", "1", "b", "2", "c", ""), pairs("a", "2", "b", "1"), pairs("a", "1b", "", "2")[:1]} {
		b.does(decrypting("ann", sealed, other...), api.ErrCorrupt)
		b.does(decrypting("bob", sealed, other...), api.ErrCorrupt)
	}
	ends := map[api.Errno]int{}
	for i := range 8 * len(sealed) {
		turned := []byte(sealed)
		turned[i/8] ^= 1 << (i % 8)
		_, e := b.k.Do(decrypting("ann", string(turned), context...))
		ends[e]++
		if _, f := b.s.asked(decrypting("ann", string(turned), context...)); e == api.OK || e != f {
			t.Errorf("bit %d: %d, by the words %d", i, e, f)
		}
	}
	if ends[api.ErrForm] < 20 || ends[api.ErrNone] < 5 || ends[api.ErrCorrupt] < 200 {
		t.Error(ends)
	}
}

// P15.1, P0.4, Decrypt: what names no key and version is refused, ahead of who asks.
func TestNamesNone(t *testing.T) {
	b := begun(t)
	b.ok(creating("ann"))
	b.ok(aliasing("ann", "k1", "other"))
	b.ok(aliasing("ann", "k1", "k7"))
	sealed := b.ok(encrypting("ann", "k1", "text"))
	body := sealed[len(headOf("k1", 1, "")):]
	for _, who := range []string{"ann", "bob", ""} {
		for _, text := range []string{"", "K", "K1", "rubbish", "k1" + sealed[2:], sealed[:20], sealed[:len(headOf("k1", 1, ""))+15], headOf("K1", 1, "") + body, headOf("k1", 0, "") + body, headOf("k1", 9, "") + body, sealed + repeated(1021, "x")} {
			b.does(decrypting(who, text), api.ErrForm)
		}
		for _, id := range []string{"k2", "k", "k11", "other", "k7", "α", "1"} {
			b.does(decrypting(who, headOf(id, 1, "")+body), api.ErrNone)
		}
		for n := 2; n <= 8; n++ {
			b.does(decrypting(who, headOf("k1", n, "")+body), api.ErrNone)
		}
	}
	b.ok(rotating("ann", "k1", "more"))
	b.does(decrypting("ann", headOf("k1", 2, "")+body), api.ErrCorrupt)
	b.does(decrypting("bob", headOf("k1", 2, "")+body), api.ErrDenied)
	b.does(decrypting("ann", headOf("k1", 3, "")+body), api.ErrNone)
}

// P15.1: which error goes ahead: that there is no such key, that it may not be, that it can't be now, and what is wrong with the text.
func TestErrorsInOrder(t *testing.T) {
	b := begun(t)
	b.ok(creating("ann"))
	sealed := b.ok(encrypting("ann", "k1", "text"))
	long := repeated(1025, "x")
	for _, x := range []struct {
		do   kms.Req
		want api.Errno
	}{{eventing("ann", "k1", 2, 0), api.ErrState}, {eventing("ann", "k1", 3, 1), api.ErrPending}, {ticking(1), api.ErrPending}, {sweeping(), api.ErrNone}} {
		b.ok(x.do)
		b.does(encrypting("ann", "k1", long), x.want)
		b.does(making("ann", "k1", "draw"), x.want)
		b.does(decrypting("ann", sealed), x.want)
		b.does(decrypting("ann", sealed, pairs("a", "1")...), x.want)
		b.does(encrypting("bob", "k1", long), api.ErrDenied)
		b.does(making("bob", "k1", "draw"), api.ErrDenied)
		b.does(making("ann", "k1", "draw", api.Pair{}), api.ErrDenied)
		for _, key := range []string{"", "k2", "K1", "k01", "k1 ", "k1/", "../k1", strings.Repeat("k", 70000)} {
			b.does(encrypting("bob", key, long), api.ErrNone)
			b.does(making("bob", key, ""), api.ErrNone)
		}
	}
	b.does(decrypting("bob", sealed), api.ErrNone)
}

// P15.1: a key's time runs out at Expires, and not ahead of it.
func TestExpired(t *testing.T) {
	b := begun(t)
	b.ok(creating("ann"))
	sealed := b.ok(encrypting("ann", "k1", "text"))
	b.ok(eventing("ann", "k1", 6, 3))
	for now := range 6 {
		want := api.OK
		if now >= 3 {
			want = api.ErrExpired
		}
		for op := range 3 {
			b.does(asking(op, "ann", "k1", sealed, nil), want)
			b.does(asking(op, "bob", "k1", sealed, nil), api.ErrDenied)
		}
		b.ok(ticking(1))
	}
	b.ok(eventing("ann", "k1", 6, 0))
	b.ok(decrypting("ann", sealed))
}
