package grant_test

import (
	"math"
	"slices"
	"strconv"
	"strings"
	"testing"

	"keyloft/api"
	"keyloft/grant"
)

// P13.1: ordinary grants.
func TestRight(t *testing.T) {
	isGrant(t, "ordinary", ordinary())
	isGrant(t, "equal", of(func(g *grant.Grant) { g.Equal = true }))
	isGrant(t, "the least", grant.Grant{Id: 1, Who: "a"})
	isGrant(t, "the most", grant.Grant{Id: math.MaxInt32, Who: strings.Repeat("ω", 32), Retire: strings.Repeat("ω", 32), Ops: 255, Need: largest(8), Equal: true})
	isGrant(t, "retired by who may", grant.Grant{Id: 1, Who: "bob", Retire: "bob", Ops: 1})
	isNone(t, "the zero one", grant.Grant{})
}

// P13.1: an Id is 1 to 2^31 - 1.
func TestIds(t *testing.T) {
	for _, id := range []int{1, 2, 9, 10, 255, 256, 9999, 10000, 1 << 30, 1<<31 - 2, 1<<31 - 1} {
		isGrant(t, "the id "+strconv.Itoa(id), of(func(g *grant.Grant) { g.Id = id }))
	}
	for _, id := range wrongIds() {
		isNone(t, "the id "+strconv.Itoa(id), of(func(g *grant.Grant) { g.Id = id }))
	}
}

// P13.1: who may, and who may retire it, are names; nobody need retire it, but somebody may.
func TestNames(t *testing.T) {
	for _, name := range rightNames() {
		isGrant(t, "Who "+strconv.Quote(name), of(func(g *grant.Grant) { g.Who = name }))
		isGrant(t, "Retire "+strconv.Quote(name), of(func(g *grant.Grant) { g.Retire = name }))
		isGrant(t, "both "+strconv.Quote(name), of(func(g *grant.Grant) { g.Who, g.Retire = name, name }))
	}
	for _, name := range wrongNames() {
		isNone(t, "Who "+strconv.Quote(name), of(func(g *grant.Grant) { g.Who = name }))
		isNone(t, "Retire "+strconv.Quote(name), of(func(g *grant.Grant) { g.Retire = name }))
	}
	isGrant(t, "retired by nobody", of(func(g *grant.Grant) { g.Retire = "" }))
	isNone(t, "nobody may", of(func(g *grant.Grant) { g.Who = "" }))
	isNone(t, "nobody may, nor retire it", of(func(g *grant.Grant) { g.Who, g.Retire = "", "" }))
}

// P13.1: each set of operations, and what is none.
func TestSets(t *testing.T) {
	for set := range 256 {
		isGrant(t, "the set "+strconv.Itoa(set), of(func(g *grant.Grant) { g.Ops = set }))
	}
	for _, set := range wrongSets() {
		isNone(t, "the set "+strconv.Itoa(set), of(func(g *grant.Grant) { g.Ops = set }))
	}
}

// P13.1: what is needed is a context, in whatever order, the empty one too.
func TestNeeds(t *testing.T) {
	turned := largest(8)
	slices.Reverse(turned)
	for _, need := range [][]api.Pair{nil, {}, pairs("a", ""), pairs("b", "2", "a", "1"), pairs("\x00", "\xff"), largest(1), largest(7), largest(8), turned} {
		for _, equal := range []bool{false, true} {
			isGrant(t, "a context", of(func(g *grant.Grant) { g.Need, g.Equal = need, equal }))
		}
	}
	for what, need := range noContexts() {
		for _, equal := range []bool{false, true} {
			isNone(t, what, of(func(g *grant.Grant) { g.Need, g.Equal = need, equal }))
		}
	}
}

// P13.1: lengths of keys and values about the edges.
func TestLengthsOfNeeds(t *testing.T) {
	long := strings.Repeat("α-\x00\xff", 100)
	for k := range 70 {
		for _, v := range []int{0, 1, 63, 64, 65, 66, 128, 256, 320} {
			g := of(func(g *grant.Grant) { g.Need = pairs(long[:k], long[:v]) })
			if want := k >= 1 && k <= 32 && v <= 64; grant.Right(g) != want {
				t.Errorf("a key of %d, a value of %d: %v", k, v, !want)
			}
		}
	}
}

// P13.1: grants without a pattern, mostly right, by the words.
func TestDrawnGrants(t *testing.T) {
	draw := mixer(1)
	rights := 0
	for range 20000 {
		g := drawnGrant(draw)
		if grant.Right(g) != rightOf(g) {
			t.Fatalf("%+v: %v", g, grant.Right(g))
		}
		if grant.Right(g) {
			rights++
		}
	}
	if rights < 5000 || rights > 19000 {
		t.Errorf("%d right ones", rights)
	}
}

// drawnGrant: of few names and pairs, so that grants have much in common; now and then with a wrong field.
func drawnGrant(draw func(int) int) grant.Grant {
	g := grant.Grant{Id: 1 + draw(5), Who: drawnName(draw), Ops: draw(256), Need: drawnContext(draw), Equal: draw(2) == 0}
	if draw(2) == 0 {
		g.Retire = drawnName(draw)
	}
	if draw(2) == 0 {
		g.Ops &= draw(256) & draw(256)
	}
	switch draw(40) {
	case 0:
		g.Id = wrongIds()[draw(len(wrongIds()))]
	case 1:
		g.Retire = wrongNames()[draw(len(wrongNames()))]
	case 2:
		g.Ops = wrongSets()[draw(len(wrongSets()))]
	}
	return g
}

func drawnName(draw func(int) int) string {
	if draw(30) == 0 {
		return append(wrongNames(), "")[draw(len(wrongNames())+1)]
	}
	return []string{"ann", "bob"}[draw(2)]
}

// drawnContext: of the keys a, b and c, mostly with the value 1.
func drawnContext(draw func(int) int) []api.Pair {
	if draw(20) == 0 {
		return [][]api.Pair{largest(8), largest(9), pairs("a", "1", "a", "1"), pairs("", ""), pairs("a", "1", "b", strings.Repeat("v", 65))}[draw(5)]
	}
	keys := []string{"a", "b", "c"}
	if draw(2) == 0 {
		slices.Reverse(keys)
	}
	var l []api.Pair
	for _, key := range keys {
		if draw(2) == 0 {
			l = append(l, api.Pair{Key: key, Value: []string{"1", "1", "1", "2", ""}[draw(5)]})
		}
	}
	return l
}

// P13.1, P13.2: what is handed in is not changed by any call, its spare room neither.
func TestArgumentsStay(t *testing.T) {
	room := append(pairs("b", "2", "a", "1"), pairs("x", "y", "w", "z")...)
	before := slices.Clone(room)
	g := of(func(g *grant.Grant) { g.Need = room[:2] })
	grants := []grant.Grant{g, of(func(g *grant.Grant) { g.Need = room[2:3] }), of(func(g *grant.Grant) { g.Id = 9 })}
	list := append(listOf(g), "more")
	for range 2 {
		grant.Right(g)
		grant.Allows(g, "bob", 0, room[:3])
		grant.Allows(g, "bob", 0, room[1:3])
		grant.Any(grants[:2], "ann", "bob", 1, room[:3])
		grant.Any(grants[:2], "bob", "bob", 1, room[:1])
		grant.Narrower(g, grants[1])
		grant.Narrower(g, g)
		grant.Print(g)
		grant.Parse(list[:6])
		grant.Parse(list[:5])
		if !slices.Equal(room, before) || !alike(grants[0], g) || grants[2].Id != 9 || !slices.Equal(list, append(listOf(g), "more")) {
			t.Fatalf("%q, %+v, %v", room, grants, list)
		}
	}
}
