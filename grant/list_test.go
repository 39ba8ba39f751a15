package grant_test

import (
	"math"
	"slices"
	"strconv"
	"strings"
	"testing"

	"keyloft/api"
	"keyloft/grant"
	"keyloft/value"
)

// prints: Print answers just this list, which is a value of layer 7, and parsed to the grant again.
func prints(t *testing.T, g grant.Grant, want ...any) {
	t.Helper()
	l, e := grant.Print(g)
	if e != api.OK || !slices.Equal(l, want) {
		t.Errorf("%+.300v: %d, %.300v, not %.300v", g, e, l, want)
	}
	bytes, e := value.Print(l)
	v, f := value.Parse(bytes)
	if e != api.OK || f != api.OK {
		t.Errorf("%.300v is no value: %d, %d", l, e, f)
	}
	parses(t, v, risen(g))
}

// parses: Parse answers the grant.
func parses(t *testing.T, v any, want grant.Grant) {
	t.Helper()
	if g, e := grant.Parse(v); e != api.OK || !alike(g, want) {
		t.Errorf("%.300v: %d, %+.300v, not %+.300v", v, e, g, want)
	}
}

// parsesNot: Parse answers ErrForm, and no grant.
func parsesNot(t *testing.T, what string, v any) {
	t.Helper()
	if g, e := grant.Parse(v); e != api.ErrForm || g.Need != nil || !alike(g, grant.Grant{}) {
		t.Errorf("%s: %d, %+.300v", what, e, g)
	}
}

// changed: an ordinary grant's list with another value at one place.
func changed(place int, v any) []any {
	l := listOf(ordinary())
	l[place] = v
	return l
}

// P13.2: grants' lists, and back.
func TestLists(t *testing.T) {
	prints(t, ordinary(), 7, "bob", "cy", 5, "\x01a\x011", false)
	prints(t, grant.Grant{Id: 1, Who: "a"}, 1, "a", "", 0, "", false)
	prints(t, grant.Grant{Id: 1, Who: "a", Need: []api.Pair{}, Equal: true}, 1, "a", "", 0, "", true)
	prints(t, grant.Grant{Id: 2, Who: "α-2", Retire: "ω", Ops: 255, Need: pairs("b", "2", "a", "1"), Equal: true}, 2, "α-2", "ω", 255, "\x01a\x011\x01b\x012", true)
	prints(t, grant.Grant{Id: 3, Who: "x", Retire: "x", Ops: 128, Need: pairs("ab", "", "\xff", "\x00", "a", "b")}, 3, "x", "x", 128, "\x01a\x01b\x02ab\x00\x01\xff\x01\x00", false)
	most := grant.Grant{Id: 2147483647, Who: strings.Repeat("ω", 32), Retire: strings.Repeat("α", 32), Ops: 255, Need: largest(8), Equal: true}
	prints(t, most, 2147483647, strings.Repeat("ω", 32), strings.Repeat("α", 32), 255, needOf(largest(8)), true)
}

// P13.2: numbers, names and sets about their edges.
func TestListsAtEdges(t *testing.T) {
	for _, id := range []int{1, 2, 255, 256, 1<<31 - 2, 1<<31 - 1} {
		prints(t, of(func(g *grant.Grant) { g.Id = id }), id, "bob", "cy", 5, "\x01a\x011", false)
	}
	for _, name := range rightNames() {
		prints(t, of(func(g *grant.Grant) { g.Who = name }), 7, name, "cy", 5, "\x01a\x011", false)
		prints(t, of(func(g *grant.Grant) { g.Retire = name }), 7, "bob", name, 5, "\x01a\x011", false)
	}
	for set := range 256 {
		prints(t, of(func(g *grant.Grant) { g.Ops, g.Equal = set, true }), 7, "bob", "cy", set, "\x01a\x011", true)
	}
	for n := range 9 {
		need := largest(n)
		slices.Reverse(need)
		prints(t, of(func(g *grant.Grant) { g.Need = need }), 7, "bob", "cy", 5, needOf(need), false)
	}
}

// P13.2: what is no list of six.
func TestNoLists(t *testing.T) {
	whole := listOf(ordinary())
	type list []any
	for _, v := range []any{nil, 0, 7, "", "bob", true, false, 1.5, ordinary(), &whole, list(whole), [6]any(whole), []int{7}, []string{"bob"}, map[int]any{}, func() {}, struct{}{}, error(nil), api.OK} {
		parsesNot(t, "no list", v)
	}
	bytes, _ := value.Print(whole)
	parsesNot(t, "a list's bytes", bytes)
	for n := range 6 {
		parsesNot(t, strconv.Itoa(n)+" values", whole[:n])
		parsesNot(t, strconv.Itoa(n)+" values, of the end", whole[6-n:])
		parsesNot(t, "one more", slices.Insert(slices.Clone(whole), n, whole[n]))
	}
	for _, more := range []any{nil, 0, "", false, []any{}} {
		parsesNot(t, "one more", append(slices.Clone(whole), more))
		parsesNot(t, "one more ahead", append([]any{more}, whole...))
	}
	parsesNot(t, "a list in a list", []any{whole})
	parsesNot(t, "twice", append(slices.Clone(whole), whole...))
	parsesNot(t, "six lists", []any{whole, whole, whole, whole, whole, whole})
	parsesNot(t, "no list, but a nil one", []any(nil))
	parses(t, whole, ordinary())
}

// P13.2: a value of another type at each place, also such as look like nothing, or can't be held against one another.
func TestOtherTypes(t *testing.T) {
	type number int
	type text string
	type yes bool
	whole := listOf(ordinary())
	for place := range 6 {
		for _, v := range []any{
			nil, 0, 5, 7, "", "bob", "cy", "0", "7", "\x01a\x011", false, true, []any{}, []any(nil), []any{whole[place]}, whole, 0.0, 5.0, int64(7), int32(5), uint(5),
			uint8(5), 'b', number(5), text("bob"), text(""), yes(false), []byte("bob"), []string{}, map[string]any{}, func() {}, &whole[place], &whole, struct{}{}, api.OK, grant.Grant{}, complex(5, 0),
		} {
			if fits(place, v) {
				continue
			}
			parsesNot(t, "at "+strconv.Itoa(place), changed(place, v))
			l := listOf(grant.Grant{Id: 1, Who: "a"})
			l[place] = v
			parsesNot(t, "of the least, at "+strconv.Itoa(place), l)
		}
	}
}

// fits: may these few values stand there?
func fits(place int, v any) bool {
	switch place {
	case 0:
		return v == any(5) || v == any(7)
	case 1:
		return v == any("bob") || v == any("cy") || v == any("0") || v == any("7")
	case 2:
		return fits(1, v) || v == any("")
	case 3:
		return fits(0, v) || v == any(0)
	case 4:
		return v == any("") || v == any("\x01a\x011")
	}
	return v == any(true) || v == any(false)
}

// P13.2: values of the right type that no right grant has.
func TestWrongValues(t *testing.T) {
	for _, id := range wrongIds() {
		parsesNot(t, "an id", changed(0, id))
	}
	for _, name := range wrongNames() {
		parsesNot(t, "who", changed(1, name))
		parsesNot(t, "retire", changed(2, name))
	}
	parsesNot(t, "nobody may", changed(1, ""))
	parses(t, changed(2, ""), of(func(g *grant.Grant) { g.Retire = "" }))
	for _, set := range wrongSets() {
		parsesNot(t, "a set", changed(3, set))
	}
	for what, need := range map[string]string{
		"falling keys": "\x01b\x012\x01a\x011", "a key twice": "\x01a\x011\x01a\x012", "a pair twice": "\x01a\x011\x01a\x011", "a piece of it": "\x01a\x01", "no value": "\x01a",
		"only a length": "\x01", "more behind it": "\x01a\x011\x00", "a nought ahead": "\x00\x01a\x011", "an empty key": "\x00\x00", "a long key": "\x21" + strings.Repeat("k", 33) + "\x00",
		"a long value": "\x01a\x41" + strings.Repeat("v", 65), "nine pairs": nine(), "no text of one": "a=1", "any bytes": "\xff\xff\xff",
	} {
		parsesNot(t, what, changed(4, need))
	}
}

// nine: as a context's text would be, if it might have nine pairs.
func nine() string {
	var s string
	for i := range 9 {
		s += "\x01" + strconv.Itoa(i) + "\x00"
	}
	return s
}

// P13.2: what isn't right isn't printed.
func TestNotPrinted(t *testing.T) {
	for _, g := range []grant.Grant{{}, {Id: 1}, {Who: "bob"}, {Id: math.MaxInt, Who: "bob"}, {Id: 1, Who: "bob", Ops: 256}, {Id: 1, Who: "bob", Retire: "B"}, {Id: 1, Who: "bob", Need: make([]api.Pair, 1)}} {
		if l, e := grant.Print(g); e != api.ErrForm || l != nil {
			t.Errorf("%+v: %d, %v", g, e, l)
		}
	}
}

// P13.2: a list that has itself in it is no grant's, and Parse ends.
func TestListInItself(t *testing.T) {
	for place := range 6 {
		l := listOf(ordinary())
		l[place] = l
		parsesNot(t, "in itself", l)
	}
}

// P13.2, P13.3: all that is printed is parsed, and printed again the same; a list of drawn values is parsed as the words tell.
func TestDrawnLists(t *testing.T) {
	draw := mixer(6)
	times := map[api.Errno]int{}
	for range 20000 {
		g := drawnGrant(draw)
		l, e := grant.Print(g)
		if rightOf(g) != (e == api.OK) || e != api.OK && (e != api.ErrForm || len(l) != 0) {
			t.Fatalf("%+v: %d, %v", g, e, l)
		}
		times[e]++
		if e != api.OK {
			continue
		}
		prints(t, g, listOf(g)...)
		other := drawnGrant(draw)
		for range draw(3) {
			place := draw(6)
			l[place] = []any{listOf(other)[place], listOf(other)[draw(6)], nil}[draw(3)]
		}
		readByTheWords(t, l)
	}
	if times[api.OK] < 5000 || times[api.ErrForm] < 1000 {
		t.Error(times)
	}
}

// readByTheWords: the list is a right grant's, or refused.
func readByTheWords(t *testing.T, l []any) {
	t.Helper()
	id, isId := l[0].(int)
	who, isWho := l[1].(string)
	retire, isRetire := l[2].(string)
	ops, isOps := l[3].(int)
	need, isNeed := l[4].(string)
	equal, isEqual := l[5].(bool)
	g := grant.Grant{Id: id, Who: who, Retire: retire, Ops: ops, Need: pairsOf(need), Equal: equal}
	if isId && isWho && isRetire && isOps && isNeed && isEqual && rightOf(g) && needOf(g.Need) == need {
		parses(t, l, g)
	} else {
		parsesNot(t, "drawn", l)
	}
}

// pairsOf: those of a context's text, as far as it has whole ones.
func pairsOf(s string) []api.Pair {
	var l []api.Pair
	for len(s) > 0 {
		k := 1 + int(s[0])
		if k >= len(s) || k+1+int(s[k]) > len(s) {
			return l
		}
		v := k + 1 + int(s[k])
		l = append(l, api.Pair{Key: s[1:k], Value: s[k+1 : v]})
		s = s[v:]
	}
	return l
}

// P13.2: answers are new memory: who changes one changes no other one, nor what was handed in.
func TestAnswersAreNew(t *testing.T) {
	g := of(func(g *grant.Grant) { g.Need = pairs("a", "1", "b", "2") })
	l, _ := grant.Print(g)
	m, _ := grant.Print(g)
	one, _ := grant.Parse(m)
	two, _ := grant.Parse(m)
	clear(l)
	l = append(l[:0], 1, 2, 3, 4, 5, 6)
	one.Need[0] = api.Pair{Key: "x", Value: "y"}
	_ = append(one.Need[:1], api.Pair{Key: "z"})
	if !slices.Equal(m, listOf(g)) || !alike(two, g) {
		t.Errorf("%v, %+v", m, two)
	}
	prints(t, g, 7, "bob", "cy", 5, "\x01a\x011\x01b\x012", false)
	parses(t, m, g)
}
