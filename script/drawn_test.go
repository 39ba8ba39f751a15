package script_test

import (
	"testing"

	"keyloft/api"
	"keyloft/grant"
	"keyloft/kms"
	"keyloft/script"
)

// drawer: operations without a pattern.
type drawer struct{ draw func(below int) int }

func (d drawer) one(of ...string) string { return of[d.draw(len(of))] }

func (d drawer) text() string {
	return d.one("", "", "ann", "bob", "k1", "α", "Ann", "\x00", "l\x00", "\xff", repeated(d.draw(300), "text"), repeated(d.draw(20), "\xce\xb1s"))
}

func (d drawer) number() int {
	switch d.draw(4) {
	case 0:
		return manyNumbers()[d.draw(len(manyNumbers()))]
	case 1:
		return d.draw(1<<31)<<33 ^ d.draw(1<<31)<<5
	}
	return d.draw(20) - 2
}

func (d drawer) context() []api.Pair {
	if d.draw(150) == 0 {
		return noContexts()[d.draw(len(noContexts()))]
	}
	if d.draw(2) == 0 {
		return contexts()[d.draw(len(contexts()))]
	}
	var l []api.Pair
	for i := range d.draw(4) {
		l = append(l, api.Pair{Key: string(rune('a' + d.draw(3)*4 + i)), Value: d.one("", "1", "2")})
	}
	return l
}

func (d drawer) grant() grant.Grant {
	switch d.draw(100) {
	case 0:
		return wrongGrants()[d.draw(len(wrongGrants()))]
	case 1, 2, 3:
		return grant.Grant{Id: 1 + d.draw(300), Who: d.one("a", "bob", "ω"), Retire: d.one("", "cy"), Ops: d.draw(256), Need: d.context(), Equal: d.draw(2) == 0}
	}
	return grants()[d.draw(len(grants()))]
}

// op: mostly one that is right.
func (d drawer) op() script.Op {
	kind := 1 + d.draw(16)
	if d.draw(150) == 0 {
		kind = noKinds()[d.draw(len(noKinds()))]
	}
	cut := api.Cut{At: d.number(), Keep: uint64(d.number()), Torn: d.number()}
	if kind == 15 || kind == 16 {
		o := script.Op{Req: kms.Req{Kind: kind}, Cut: cut}
		if d.draw(100) == 0 {
			o.Req.N = d.number()
		}
		return o
	}
	o := script.Op{Req: kms.Req{Kind: kind, Who: d.text(), Key: d.text(), Name: d.text(), Text: d.text(), Draw: d.text(), Context: d.context(), Grant: d.grant(), N: d.number(), M: d.number()}}
	if d.draw(150) == 0 {
		o.Cut = cut
	}
	return o
}

func (d drawer) ops(below int) []script.Op {
	var l []script.Op
	for range d.draw(below) {
		l = append(l, d.op())
	}
	return l
}

// P16.1, P16.3: operations without a pattern, against the chapter's words: what was printed is read.
func TestDrawnPrint(t *testing.T) {
	d := drawer{mixer(16)}
	ends := map[api.Errno]int{}
	for i := range 10000 {
		below := 12
		if i%500 == 0 {
			below = 320
		}
		l := d.ops(below)
		s, e := script.Print(l...)
		want, f := printOf(l...)
		if e != f || s != want {
			t.Fatalf("%s: %d, %.300q, by the words %d, %.300q", short(l), e, s, f, want)
		}
		ends[e]++
		if e != api.OK {
			continue
		}
		back, e := reads(t, "what was printed", s)
		if e != api.OK || !sameOps(back, sorted(l)) {
			t.Fatalf("%.300q: read again %d, %s", s, e, short(back))
		}
		if again, e := script.Print(back...); e != api.OK || again != s {
			t.Fatalf("%.300q: printed again %d, %.300q", s, e, again)
		}
	}
	if ends[api.OK] < 2500 || ends[api.ErrForm] < 1000 {
		t.Error(ends)
	}
}

// P16.1: what isn't of the form is told ahead of what is too long, and what is too long is told of rows of right operations.
func TestDrawnLong(t *testing.T) {
	d := drawer{mixer(17)}
	ends := map[api.Errno]int{}
	for range 300 {
		var l []script.Op
		for range 60 + d.draw(240) {
			if o := d.op(); d.draw(2) == 0 || isRight(o) {
				o.Req.Draw = onlyRequests(o, repeated(d.draw(700), "long"))
				l = append(l, o)
			}
		}
		s, e := script.Print(l...)
		want, f := printOf(l...)
		if e != f || s != want {
			t.Fatalf("%d operations: %d, %d bytes, by the words %d, %d bytes", len(l), e, len(s), f, len(want))
		}
		ends[e]++
	}
	if ends[api.OK] < 10 || ends[api.ErrForm] < 10 || ends[api.ErrLong] < 10 {
		t.Error(ends)
	}
}

func isRight(o script.Op) bool {
	_, e := printOf(o)
	return e == api.OK
}

// onlyRequests: a text for a request; the kinds 15 and 16 have none.
func onlyRequests(o script.Op, text string) string {
	if o.Req.Kind >= 15 {
		return ""
	}
	return text
}
