package grant_test

import (
	"maps"
	"math"
	"regexp"
	"slices"
	"strings"
	"testing"

	"keyloft/api"
	"keyloft/grant"
)

// The chapter's words told a second time: contexts as maps, sets of operations bit by bit.

var nameForm = regexp.MustCompile(`\A[a-z0-9\x{3b1}-\x{3c9}][a-z0-9\x{3b1}-\x{3c9}-]{0,31}\z`)

// mapOf: a context's values by their keys; false, if it is none.
func mapOf(context []api.Pair) (map[string]string, bool) {
	m := map[string]string{}
	for _, p := range context {
		if _, twice := m[p.Key]; twice || p.Key == "" || len(p.Key) > 32 || len(p.Value) > 64 {
			return nil, false
		}
		m[p.Key] = p.Value
	}
	return m, len(m) <= 8
}

// needOf: a context's text.
func needOf(context []api.Pair) string {
	m, _ := mapOf(context)
	var out []byte
	for _, key := range slices.Sorted(maps.Keys(m)) {
		out = append(append(out, byte(len(key))), key...)
		out = append(append(out, byte(len(m[key]))), m[key]...)
	}
	return string(out)
}

// isPart: are all of a's pairs b's? Equal: and b's all a's?
func isPart(a, b []api.Pair, equal bool) bool {
	of, ok := mapOf(a)
	to, right := mapOf(b)
	if !ok || !right || equal && len(of) != len(to) {
		return false
	}
	for key, value := range of {
		if has, there := to[key]; !there || has != value {
			return false
		}
	}
	return true
}

// opsOf: those that a set has, told by its digits.
func opsOf(set int) []int {
	var ops []int
	for op := range 8 {
		if set%2 == 1 {
			ops = append(ops, op)
		}
		set /= 2
	}
	return ops
}

func rightOf(g grant.Grant) bool {
	_, context := mapOf(g.Need)
	return g.Id > 0 && g.Id < 2147483648 && nameForm.MatchString(g.Who) && (len(g.Retire) == 0 || nameForm.MatchString(g.Retire)) && g.Ops >= 0 && g.Ops <= 255 && context
}

func allowsOf(g grant.Grant, who string, op int, context []api.Pair) bool {
	return rightOf(g) && g.Who == who && slices.Contains(opsOf(g.Ops), op) && isPart(g.Need, context, g.Equal)
}

func anyOf(l []grant.Grant, owner, who string, op int, context []api.Pair) bool {
	_, ok := mapOf(context)
	may := ok && op >= 0 && op <= 7 && len(owner) > 0 && owner == who
	for _, g := range l {
		may = may || allowsOf(g, who, op, context)
	}
	return may
}

func narrowerOf(a, b grant.Grant) bool {
	if !rightOf(a) || !rightOf(b) || b.Equal && !a.Equal {
		return false
	}
	for _, op := range opsOf(a.Ops) {
		if !slices.Contains(opsOf(b.Ops), op) {
			return false
		}
	}
	return isPart(b.Need, a.Need, b.Equal)
}

// listOf: a right grant's.
func listOf(g grant.Grant) []any {
	return []any{g.Id, g.Who, g.Retire, g.Ops, needOf(g.Need), g.Equal}
}

// risen: the grant with its Need by rising keys.
func risen(g grant.Grant) grant.Grant {
	g.Need = slices.Clone(g.Need)
	slices.SortFunc(g.Need, func(p, q api.Pair) int { return strings.Compare(p.Key, q.Key) })
	return g
}

// alike: have both the same fields, the pairs in the same order?
func alike(a, b grant.Grant) bool {
	return a.Id == b.Id && a.Who == b.Who && a.Retire == b.Retire && a.Ops == b.Ops && a.Equal == b.Equal && slices.Equal(a.Need, b.Need)
}

// mixer: numbers without a pattern, the same in each run.
func mixer(seed uint64) func(below int) int {
	return func(below int) int {
		seed = seed*6364136223846793005 + 1442695040888963407
		return int(seed >> 33 % uint64(below))
	}
}

// pairs: of keys and values in turn.
func pairs(texts ...string) []api.Pair {
	var l []api.Pair
	for i := 0; i+1 < len(texts); i += 2 {
		l = append(l, api.Pair{Key: texts[i], Value: texts[i+1]})
	}
	return l
}

// largest: so many pairs, as long as may be.
func largest(n int) []api.Pair {
	var l []api.Pair
	for i := range n {
		l = append(l, api.Pair{Key: strings.Repeat(string(rune('a'+i)), 32), Value: strings.Repeat(string(rune('A'+i)), 64)})
	}
	return l
}

// ordinary: a right grant, whose fields tests change.
func ordinary() grant.Grant {
	return grant.Grant{Id: 7, Who: "bob", Retire: "cy", Ops: 0b101, Need: pairs("a", "1")}
}

// of: an ordinary grant, changed.
func of(change func(g *grant.Grant)) grant.Grant {
	g := ordinary()
	change(&g)
	return g
}

func rightNames() []string {
	return []string{
		"a", "z", "0", "9", "α", "ω", "ς", "k1", "key-1", "a-", "a--b", "α2", "007", "1-", "ann", "bob-", strings.Repeat("k", 32),
		strings.Repeat("ω", 32), "a" + strings.Repeat("-", 31), strings.Repeat("α0-z", 8),
	}
}

// wrongNames: but the empty one.
func wrongNames() []string {
	return []string{
		"-", "-a", "--", "A", "Bob", "boB", "a b", " bob", "bob ", "bob\n", "a_b", "a/b", "a.", "bob\x00", "\x00", "\xff", "bob\xce", "\xb1a", "\xce\xb1\xce",
		"α\u03b0", "\u03ca", "ά", "Α", "é", "𝛼", "а", "1\u0301", strings.Repeat("a", 33), strings.Repeat("ω", 33), strings.Repeat("a", 32) + "-",
		strings.Repeat("a", 64), strings.Repeat("a", 256), strings.Repeat("a", 257), strings.Repeat("a", 1<<16),
	}
}

func wrongIds() []int {
	return []int{0, -1, -2, -7, 1 << 31, 1<<31 + 1, 1<<31 + 7, 1 << 32, 1<<32 + 1, 1<<33 + 7, 1 << 62, -1 << 31, -1<<31 + 1, -1<<32 + 1, 1 - 1<<31, math.MaxInt, math.MinInt, math.MinInt + 1}
}

// wrongSets: with such as have a right one's last byte.
func wrongSets() []int {
	return []int{-1, -2, -128, -255, -256, 256, 257, 256 + 0b101, 511, 512, 1 << 16, 1<<16 + 1, 1 << 31, 1 << 32, 1<<32 + 255, -1 << 32, math.MaxInt, math.MinInt, math.MinInt + 5}
}

// wrongOps: with such as have a right one's last bits, and such as no number can be shifted by.
func wrongOps() []int {
	return []int{-1, -2, -7, -8, -63, -64, -256, 8, 9, 10, 15, 16, 31, 32, 63, 64, 65, 128, 255, 256, 258, 1 << 31, 1 << 32, 1<<32 + 2, math.MaxInt, math.MinInt, math.MinInt + 2}
}

func noContexts() map[string][]api.Pair {
	return map[string][]api.Pair{
		"an empty pair":         {{}},
		"an empty key":          pairs("a", "1", "", "2"),
		"a key of 33":           pairs("a", "1", strings.Repeat("k", 33), ""),
		"a value of 65":         pairs("a", "1", "b", strings.Repeat("v", 65)),
		"a long value alone":    pairs("a", strings.Repeat("v", 65)),
		"a key twice":           pairs("a", "1", "b", "2", "a", "3"),
		"a pair twice":          pairs("a", "1", "a", "1"),
		"nine pairs":            largest(9),
		"nine pairs, a=1 first": append(pairs("a", "1"), largest(8)...),
		"nine pairs, a=1 last":  append(largest(8), pairs("a", "1")...),
		"eight pairs, and less": append(largest(8), api.Pair{}),
		"264 pairs":             slices.Repeat(pairs("a", "1"), 264),
	}
}

// isGrant: Right says so, Print too, and it allows what it has.
func isGrant(t *testing.T, what string, g grant.Grant) {
	t.Helper()
	l, e := grant.Print(g)
	if !grant.Right(g) || e != api.OK || len(l) != 6 || !grant.Narrower(g, g) {
		t.Errorf("%s: %v, printed %d, %.300v", what, grant.Right(g), e, l)
	}
	for op := range 8 {
		if allows, has := grant.Allows(g, g.Who, op, g.Need), slices.Contains(opsOf(g.Ops), op); allows != has {
			t.Errorf("%s: allows %d: %v", what, op, allows)
		}
	}
}

// isNone: no call takes it for a grant.
func isNone(t *testing.T, what string, g grant.Grant) {
	t.Helper()
	if grant.Right(g) {
		t.Errorf("%s: right", what)
	}
	if l, e := grant.Print(g); e != api.ErrForm || len(l) != 0 {
		t.Errorf("%s: printed %d, %.300v", what, e, l)
	}
	for op := range 8 {
		if grant.Allows(g, g.Who, op, g.Need) || grant.Any([]grant.Grant{g, g}, "ann", g.Who, op, g.Need) {
			t.Errorf("%s: allows %d", what, op)
		}
	}
	wide, narrow := of(func(g *grant.Grant) { g.Ops, g.Need = 255, nil }), of(func(g *grant.Grant) { g.Ops, g.Equal = 0, true })
	if grant.Narrower(g, g) || grant.Narrower(g, wide) || grant.Narrower(narrow, g) || !grant.Narrower(narrow, wide) {
		t.Errorf("%s: narrower", what)
	}
}
