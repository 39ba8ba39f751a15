package grant_test

import (
	"slices"
	"strings"
	"testing"

	"keyloft/api"
	"keyloft/grant"
)

// may: Any answers this.
func may(t *testing.T, what string, l []grant.Grant, owner, who string, op int, context []api.Pair, want bool) {
	t.Helper()
	if got := grant.Any(l, owner, who, op, context); got != want {
		t.Errorf("%s: of %.80q, with %d grants, %.80q may do %d with %.300q: %v", what, owner, len(l), who, op, context, got)
	}
}

// P13.1: an owner may do each operation with each context, whatever grants there are.
func TestOwner(t *testing.T) {
	lists := [][]grant.Grant{nil, {}, {{}}, {ordinary()}, {of(func(g *grant.Grant) { g.Who, g.Need, g.Equal = "ann", pairs("x", "y"), true })}}
	for _, l := range lists {
		for op := range 8 {
			for _, context := range [][]api.Pair{nil, {}, pairs("a", "1"), pairs("b", "2", "a", "1"), largest(8)} {
				may(t, "the owner", l, "ann", "ann", op, context, true)
			}
		}
		for _, op := range wrongOps() {
			may(t, "no operation", l, "ann", "ann", op, pairs("a", "1"), false)
			may(t, "no operation, no context", l, "ann", "ann", op, nil, false)
		}
		for what, none := range noContexts() {
			may(t, what, l, "ann", "ann", 0, none, false)
		}
	}
}

// P13.1: who isn't the owner may do nothing without a grant, and nobody owns what has no owner.
func TestNotOwner(t *testing.T) {
	for _, who := range append(append(rightNames(), wrongNames()...), "", "an", "annn", "Ann", "ann ") {
		for _, l := range [][]grant.Grant{nil, {}, {{}}, {of(func(g *grant.Grant) { g.Who, g.Ops = "cy", 255 })}} {
			for op := range 8 {
				if who != "ann" {
					may(t, "not the owner", l, "ann", who, op, pairs("a", "1"), false)
				}
				may(t, "no owner", l, "", who, op, pairs("a", "1"), false)
			}
		}
	}
	may(t, "nobody of nobody", nil, "", "", 0, nil, false)
	may(t, "nobody, with a grant of nobody", []grant.Grant{{Id: 1, Ops: 255}}, "", "", 0, nil, false)
}

// P13.1: who is the owner, and not empty: of an owner's name no more is asked.
func TestOwnersOfAnyName(t *testing.T) {
	for _, name := range append(rightNames(), wrongNames()...) {
		may(t, "the owner", nil, name, name, 0, nil, true)
		may(t, "the owner, and a nought", nil, name, name+"\x00", 0, nil, false)
	}
}

// P13.1: some one grant is enough, wherever it stands, among however many.
func TestSomeGrant(t *testing.T) {
	const count = 300
	for _, at := range []int{0, 1, 2, 31, 32, 33, 150, count - 2, count - 1} {
		l := slices.Repeat([]grant.Grant{of(func(g *grant.Grant) { g.Ops = 0b1111_1011 })}, count)
		may(t, "none of them", l, "ann", "bob", 2, pairs("a", "1"), false)
		l[at].Ops = 0b100
		may(t, "one of them", l, "ann", "bob", 2, pairs("a", "1", "b", "2"), true)
		may(t, "another context", l, "ann", "bob", 2, pairs("b", "2"), false)
		may(t, "another one asks", l, "ann", "cy", 2, pairs("a", "1"), false)
		l[at].Id = 0
		may(t, "a wrong one", l, "ann", "bob", 2, pairs("a", "1"), false)
	}
}

// P13.1: it is one grant that allows all that is asked, not one this and another one that; ids may be the same.
func TestNotTogether(t *testing.T) {
	change := func(who string, ops int, need ...string) grant.Grant {
		return of(func(g *grant.Grant) { g.Who, g.Ops, g.Need = who, ops, pairs(need...) })
	}
	may(t, "who of one, the operation of another one", []grant.Grant{change("bob", 1), change("cy", 2)}, "ann", "bob", 1, nil, false)
	may(t, "the operation of one, the context of another one", []grant.Grant{change("bob", 2, "a", "1"), change("bob", 1)}, "ann", "bob", 1, nil, false)
	may(t, "a grant of the owner", []grant.Grant{change("ann", 255)}, "ann", "bob", 1, nil, false)
	may(t, "the owner's name as Retire", []grant.Grant{of(func(g *grant.Grant) { g.Retire = "ann" })}, "cy", "ann", 0, pairs("a", "1"), false)
	may(t, "both", []grant.Grant{change("bob", 1), change("bob", 2, "a", "1"), change("bob", 2)}, "ann", "bob", 1, nil, true)
	may(t, "an owner of another key", []grant.Grant{change("ann", 2)}, "bob", "ann", 1, nil, true)
}

// P13.1: an owner needs no grant, but with one that is wrong, or for less, may do no less.
func TestOwnerWithGrants(t *testing.T) {
	for _, g := range []grant.Grant{{}, {Id: 1, Who: "ann"}, {Id: 1, Who: "ann", Ops: 255, Need: largest(8), Equal: true}, {Id: -1, Who: strings.Repeat("a", 99), Ops: -1, Need: largest(9)}} {
		for op := range 8 {
			may(t, "the owner", []grant.Grant{g, g}, "ann", "ann", op, pairs("a", "1"), true)
			may(t, "not the owner", []grant.Grant{g, g}, "ann", "bob", op, pairs("a", "1"), false)
		}
	}
}

// P13.1: calls without a pattern, by the words.
func TestDrawnAny(t *testing.T) {
	draw := mixer(3)
	times := map[bool]int{}
	for range 20000 {
		var l []grant.Grant
		for range draw(6) {
			l = append(l, drawnGrant(draw))
		}
		owner, who, op, context := []string{"ann", "cy", ""}[draw(3)], drawnName(draw), draw(10)-1, drawnContext(draw)
		got := grant.Any(l, owner, who, op, context)
		if got != anyOf(l, owner, who, op, context) {
			t.Fatalf("of %q, with %+v, %q may do %d with %q: %v", owner, l, who, op, context, got)
		}
		times[got]++
	}
	if times[true] < 1000 || times[false] < 1000 {
		t.Error(times)
	}
}
