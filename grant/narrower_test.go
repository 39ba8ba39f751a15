package grant_test

import (
	"slices"
	"testing"

	"keyloft/api"
	"keyloft/grant"
)

// narrower: Narrower answers this.
func narrower(t *testing.T, what string, a, b grant.Grant, want bool) {
	t.Helper()
	if got := grant.Narrower(a, b); got != want {
		t.Errorf("%s: %+.300v narrower than %+.300v: %v", what, a, b, got)
	}
}

// needing: an ordinary grant of such a need.
func needing(equal bool, need ...string) grant.Grant {
	return of(func(g *grant.Grant) { g.Need, g.Equal = pairs(need...), equal })
}

// P13.1: needs that are more, or less, or others.
func TestNarrowerNeeds(t *testing.T) {
	none, a, b, both, turned := needing(false), needing(false, "a", "1"), needing(false, "b", "2"), needing(false, "a", "1", "b", "2"), needing(false, "b", "2", "a", "1")
	narrower(t, "itself", a, a, true)
	narrower(t, "nothing needed, twice", none, none, true)
	narrower(t, "more needed", a, none, true)
	narrower(t, "less needed", none, a, false)
	narrower(t, "a pair more", both, a, true)
	narrower(t, "the other pair more", turned, b, true)
	narrower(t, "a pair less", a, both, false)
	narrower(t, "another order", both, turned, true)
	narrower(t, "another order, the other way round", turned, both, true)
	narrower(t, "another pair", a, b, false)
	narrower(t, "another value", a, needing(false, "a", "2"), false)
	narrower(t, "another key", a, needing(false, "A", "1"), false)
}

// P13.1: what must be asked with just so.
func TestNarrowerEqual(t *testing.T) {
	none, a, both := needing(false), needing(false, "a", "1"), needing(false, "a", "1", "b", "2")
	just, justNone, justBoth := needing(true, "a", "1"), needing(true), needing(true, "b", "2", "a", "1")
	narrower(t, "itself", just, just, true)
	narrower(t, "nothing, just so", justNone, justNone, true)
	narrower(t, "just so, than so or more", just, a, true)
	narrower(t, "so or more, than just so", a, just, false)
	narrower(t, "nothing or more, than just nothing", none, justNone, false)
	narrower(t, "just nothing, than nothing or more", justNone, none, true)
	narrower(t, "just more", justBoth, a, true)
	narrower(t, "just more, than just so", justBoth, just, false)
	narrower(t, "just so, than just more", just, justBoth, false)
	narrower(t, "just so, than more", just, both, false)
	narrower(t, "more, than just so", both, just, false)
	narrower(t, "just so, than just nothing", just, justNone, false)
	narrower(t, "just nothing, than just so", justNone, just, false)
	narrower(t, "another order", justBoth, needing(true, "a", "1", "b", "2"), true)
	narrower(t, "another value", just, needing(true, "a", "2"), false)
}

// P13.1: all pairs of sets.
func TestNarrowerSets(t *testing.T) {
	a, b := ordinary(), ordinary()
	for a.Ops = range 256 {
		for b.Ops = range 256 {
			if got := grant.Narrower(a, b); got != (a.Ops|b.Ops == b.Ops) {
				t.Fatalf("%08b narrower than %08b: %v", a.Ops, b.Ops, got)
			}
		}
	}
}

// P13.1: the number, who may, and who may retire it don't count, as long as they are right.
func TestNarrowerOfOthers(t *testing.T) {
	a := ordinary()
	for _, b := range []grant.Grant{
		of(func(g *grant.Grant) { g.Id = 1 }), of(func(g *grant.Grant) { g.Id = 1<<31 - 1 }), of(func(g *grant.Grant) { g.Who = "ann" }),
		of(func(g *grant.Grant) { g.Retire = "" }), of(func(g *grant.Grant) { g.Retire = "ann" }), of(func(g *grant.Grant) { g.Who, g.Retire = "cy", "bob" }),
	} {
		narrower(t, "others", a, b, true)
		narrower(t, "others, the other way round", b, a, true)
	}
}

// P13.1: neither may be wrong, also where the two are the same.
func TestNarrowerOfWrongOnes(t *testing.T) {
	wide := of(func(g *grant.Grant) { g.Ops, g.Need = 255, nil })
	narrow := of(func(g *grant.Grant) { g.Ops, g.Equal = 0, true })
	wrong := []grant.Grant{{}, of(func(g *grant.Grant) { g.Who = "" }), of(func(g *grant.Grant) { g.Who = "Bob" }), of(func(g *grant.Grant) { g.Retire = "-" })}
	for _, id := range wrongIds() {
		wrong = append(wrong, of(func(g *grant.Grant) { g.Id = id }))
	}
	for _, set := range wrongSets() {
		wrong = append(wrong, of(func(g *grant.Grant) { g.Ops = set }))
	}
	for _, need := range noContexts() {
		wrong = append(wrong, of(func(g *grant.Grant) { g.Need = need }), of(func(g *grant.Grant) { g.Need, g.Equal = need, true }))
	}
	for _, g := range wrong {
		narrower(t, "wrong, than the wide one", g, wide, false)
		narrower(t, "the narrow one, than a wrong one", narrow, g, false)
		narrower(t, "wrong, than itself", g, g, false)
	}
	narrower(t, "narrow, than wide", narrow, wide, true)
	narrower(t, "wide, than narrow", wide, narrow, false)
}

// smallContexts: of the keys a, b and ab, each with one of two values or missing; the last ones are none.
func smallContexts() [][]api.Pair {
	all := [][]api.Pair{nil}
	for _, key := range []string{"a", "b", "ab"} {
		for _, shorter := range all {
			for _, value := range []string{"", "1"} {
				all = append(all, slices.Concat(pairs(key, value), shorter))
			}
		}
	}
	return append(all, pairs("a", "1", "a", "1"), pairs("", ""))
}

// P13.1, P13.3: all small grants, each against each other one, by the words; and what a narrower one allows the wider one does, too, with all small contexts.
func TestAllSmallGrants(t *testing.T) {
	contexts := smallContexts()
	var grants []grant.Grant
	for _, ops := range []int{0, 1, 2, 3} {
		for _, need := range contexts {
			grants = append(grants, grant.Grant{Id: 1, Who: "bob", Ops: ops, Need: need}, grant.Grant{Id: 2, Who: "bob", Ops: ops, Need: need, Equal: true})
		}
	}
	allowed := make([][]bool, len(grants))
	for i, g := range grants {
		for _, context := range contexts {
			for op := range 3 {
				allowed[i] = append(allowed[i], grant.Allows(g, "bob", op, context))
			}
		}
	}
	for i, a := range grants {
		for j, b := range grants {
			got := grant.Narrower(a, b)
			if got != narrowerOf(a, b) {
				t.Fatalf("%+v narrower than %+v: %v", a, b, got)
			}
			for k := range allowed[i] {
				if got && allowed[i][k] && !allowed[j][k] {
					t.Fatalf("%+v allows more than %+v", a, b)
				}
			}
		}
	}
}

// P13.3: grants without a pattern: what the narrower one allows the wider one of the same Who does, too.
func TestNarrowerAllowsLess(t *testing.T) {
	draw := mixer(4)
	times := map[bool]int{}
	for range 100000 {
		a := drawnGrant(draw)
		b := drawnWider(draw, a)
		got := grant.Narrower(a, b)
		if got != narrowerOf(a, b) {
			t.Fatalf("%+v narrower than %+v: %v", a, b, got)
		}
		who, op, context := drawnAsked(draw, a)
		if !got || a.Who != b.Who || !grant.Allows(a, who, op, context) {
			continue
		}
		times[b.Equal]++
		if !grant.Allows(b, who, op, context) {
			t.Fatalf("%+v allows %d with %q, %+v doesn't", a, op, context, b)
		}
	}
	if times[false] < 1000 || times[true] < 1000 {
		t.Error(times)
	}
}

// P13.1: of three, each narrower than the next one, the first one is narrower than the last one.
func TestNarrowerInRows(t *testing.T) {
	draw := mixer(5)
	rows := 0
	for range 50000 {
		a := drawnGrant(draw)
		b := drawnWider(draw, a)
		c := drawnWider(draw, b)
		if grant.Narrower(a, b) && grant.Narrower(b, c) {
			rows++
			narrower(t, "two steps", a, c, true)
		}
	}
	if rows < 1000 {
		t.Errorf("%d rows", rows)
	}
}

// drawnWider: mostly a grant with more operations and a smaller need than the given one has.
func drawnWider(draw func(int) int, g grant.Grant) grant.Grant {
	other := drawnGrant(draw)
	if draw(10) > 0 {
		other.Ops |= g.Ops
	}
	if draw(10) > 0 {
		other.Who = g.Who
	}
	if draw(2) == 0 {
		other.Equal = g.Equal
	}
	switch n := len(g.Need); draw(4) {
	case 0:
		other.Need = g.Need
	case 1:
		other.Need = slices.Clone(g.Need)
		slices.Reverse(other.Need)
	case 2:
		other.Need = g.Need[draw(n+1):]
	}
	return other
}
