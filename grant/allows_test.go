package grant_test

import (
	"slices"
	"strings"
	"testing"

	"keyloft/api"
	"keyloft/grant"
)

// allows: Allows answers this, and so does Any of lists that have the grant beside such as allow nothing.
func allows(t *testing.T, what string, g grant.Grant, who string, op int, context []api.Pair, want bool) {
	t.Helper()
	if got := grant.Allows(g, who, op, context); got != want {
		t.Errorf("%s: %+.300v allows %.80q %d with %.300q: %v", what, g, who, op, context, got)
	}
	idle := of(func(g *grant.Grant) { g.Ops = 0 })
	for _, l := range [][]grant.Grant{{g}, {g, idle}, {idle, g}, {{}, idle, g, {}}, {g, g}} {
		for _, owner := range []string{"", "x" + who, who + "x"} {
			if got := grant.Any(l, owner, who, op, context); got != want {
				t.Errorf("%s: any of %d, of %q, lets %.80q do %d with %.300q: %v", what, len(l), owner, who, op, context, got)
			}
		}
	}
}

// P13.1: the chapter's example, and what is near it.
func TestAllows(t *testing.T) {
	g := grant.Grant{Id: 1, Who: "bob", Ops: 0b10, Need: pairs("a", "1")}
	allows(t, "just it", g, "bob", 1, pairs("a", "1"), true)
	allows(t, "a pair more", g, "bob", 1, pairs("a", "1", "b", "2"), true)
	allows(t, "a pair more, ahead", g, "bob", 1, pairs("b", "2", "a", "1"), true)
	allows(t, "none", g, "bob", 1, nil, false)
	allows(t, "another pair", g, "bob", 1, pairs("b", "2"), false)
	allows(t, "another value", g, "bob", 1, pairs("a", "2"), false)
	allows(t, "another operation", g, "bob", 0, pairs("a", "1"), false)
	allows(t, "another one asks", g, "ann", 1, pairs("a", "1"), false)
	g.Equal = true
	allows(t, "equal: just it", g, "bob", 1, pairs("a", "1"), true)
	allows(t, "equal: a pair more", g, "bob", 1, pairs("a", "1", "b", "2"), false)
	allows(t, "equal: a pair more, ahead", g, "bob", 1, pairs("b", "2", "a", "1"), false)
	allows(t, "equal: none", g, "bob", 1, nil, false)
	allows(t, "equal: another value", g, "bob", 1, pairs("a", "2"), false)
	allows(t, "equal: another operation", g, "bob", 2, pairs("a", "1"), false)
	allows(t, "equal: another one asks", g, "ann", 1, pairs("a", "1"), false)
}

// P13.1: each set has just its bits' operations.
func TestOperations(t *testing.T) {
	for set := range 256 {
		g := of(func(g *grant.Grant) { g.Ops = set })
		for op := range 8 {
			if got := grant.Allows(g, "bob", op, g.Need); got != slices.Contains(opsOf(set), op) {
				t.Errorf("%08b allows %d: %v", set, op, got)
			}
		}
		for _, op := range wrongOps() {
			if grant.Allows(g, "bob", op, g.Need) {
				t.Errorf("%08b allows %d", set, op)
			}
		}
	}
	for op := range 8 {
		allows(t, "the one bit", of(func(g *grant.Grant) { g.Ops = 1 << op }), "bob", op, pairs("a", "1"), true)
		allows(t, "all other bits", of(func(g *grant.Grant) { g.Ops = 255 - 1<<op }), "bob", op, pairs("a", "1"), false)
	}
	for _, op := range wrongOps() {
		allows(t, "no operation", of(func(g *grant.Grant) { g.Ops = 255 }), "bob", op, pairs("a", "1"), false)
	}
}

// P13.1: only Who may: neither who may retire it, nor who is called nearly so, nor nobody.
func TestWho(t *testing.T) {
	for _, name := range rightNames() {
		allows(t, "who may", of(func(g *grant.Grant) { g.Who = name }), name, 0, pairs("a", "1"), true)
		for _, other := range append(append(rightNames(), wrongNames()...), "", name+"-", name+"0", name[1:], strings.ToUpper(name)+" ", "cy") {
			if other != name {
				allows(t, "who may not", of(func(g *grant.Grant) { g.Who = name }), other, 0, pairs("a", "1"), false)
			}
		}
	}
	for _, name := range append(wrongNames(), "") {
		allows(t, "no name", of(func(g *grant.Grant) { g.Who = name }), name, 0, pairs("a", "1"), false)
		allows(t, "no name to retire it", of(func(g *grant.Grant) { g.Who, g.Retire = name, name }), name, 0, pairs("a", "1"), false)
	}
}

// P13.1: contexts against needs of all sizes, some pair missing, changed, or more.
func TestContexts(t *testing.T) {
	for n := range 9 {
		need := largest(8)[:n]
		rest := largest(8)[n:]
		for _, equal := range []bool{false, true} {
			g := of(func(g *grant.Grant) { g.Need, g.Equal = need, equal })
			allows(t, "just it", g, "bob", 0, need, true)
			turned := slices.Clone(need)
			slices.Reverse(turned)
			allows(t, "turned about", g, "bob", 0, turned, true)
			for more := 1; more <= len(rest); more++ {
				allows(t, "more", g, "bob", 0, slices.Concat(rest[:more], turned), !equal)
			}
			for i := range need {
				allows(t, "one missing", g, "bob", 0, slices.Delete(slices.Clone(need), i, i+1), false)
				for _, p := range []api.Pair{{Key: need[i].Key, Value: "x"}, {Key: need[i].Key}, {Key: "x", Value: need[i].Value}, {Key: need[i].Key[1:], Value: need[i].Value}} {
					other := slices.Clone(turned)
					other[n-1-i] = p
					allows(t, "one changed", g, "bob", 0, other, false)
				}
			}
		}
	}
}

// P13.1: no grant allows anything with what is no context, whatever it needs; it is one of what is needed, or has it all, nonetheless.
func TestNoContextsAllowed(t *testing.T) {
	for what, none := range noContexts() {
		for _, need := range [][]api.Pair{nil, {}, pairs("a", "1"), none[:1], largest(8)} {
			for _, equal := range []bool{false, true} {
				g := of(func(g *grant.Grant) { g.Need, g.Equal, g.Ops = need, equal, 255 })
				allows(t, what, g, "bob", 0, none, false)
			}
		}
	}
}

// P13.1: a wrong grant allows nothing, though all that is asked is right.
func TestWrongGrantsAllowNothing(t *testing.T) {
	asked := func(what string, g grant.Grant) {
		t.Helper()
		for op := range 8 {
			allows(t, what, g, "bob", op, pairs("a", "1"), false)
		}
	}
	for _, id := range wrongIds() {
		asked("a wrong id", of(func(g *grant.Grant) { g.Id = id }))
	}
	for _, name := range wrongNames() {
		asked("a wrong name", of(func(g *grant.Grant) { g.Retire = name }))
	}
	for _, set := range wrongSets() {
		asked("a wrong set", of(func(g *grant.Grant) { g.Ops = set }))
	}
	for what, need := range noContexts() {
		asked(what, of(func(g *grant.Grant) { g.Need = need }))
	}
}

// P13.1: calls without a pattern, by the words.
func TestDrawnAllows(t *testing.T) {
	draw := mixer(2)
	times := map[bool]int{}
	for range 50000 {
		g := drawnGrant(draw)
		who, op, context := drawnAsked(draw, g)
		got := grant.Allows(g, who, op, context)
		if got != allowsOf(g, who, op, context) {
			t.Fatalf("%+v allows %q %d with %q: %v", g, who, op, context, got)
		}
		times[got]++
	}
	if times[true] < 1000 || times[false] < 1000 {
		t.Error(times)
	}
}

// drawnAsked: who asks what with which context, mostly such as the grant may allow.
func drawnAsked(draw func(int) int, g grant.Grant) (string, int, []api.Pair) {
	who, op, context := drawnName(draw), draw(8), drawnContext(draw)
	if draw(3) > 0 {
		who = g.Who
	}
	if draw(10) == 0 {
		op = wrongOps()[draw(len(wrongOps()))]
	}
	switch draw(3) {
	case 0:
		context = g.Need
	case 1:
		context = slices.Concat(pairs("d", "1"), g.Need)
	}
	return who, op, context
}
