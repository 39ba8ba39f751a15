package script_test

import (
	"fmt"
	"math"
	"strings"

	"keyloft/api"
	"keyloft/grant"
	"keyloft/kms"
	"keyloft/script"
	"keyloft/value"
)

// mixer: numbers without a pattern, the same in each run.
func mixer(seed uint64) func(below int) int {
	return func(below int) int {
		seed = seed*6364136223846793005 + 1442695040888963407
		return int(seed >> 33 % uint64(below))
	}
}

// repeated: a text of so many bytes, of this one again and again.
func repeated(n int, of string) string { return strings.Repeat(of, n/len(of)+1)[:n] }

// short: how something looks, its beginning.
func short(of any) string { return fmt.Sprintf("%.500s", fmt.Sprintf("%+v", of)) }

// pairs: of keys and values in turn.
func pairs(texts ...string) []api.Pair {
	var l []api.Pair
	for i := 0; i+1 < len(texts); i += 2 {
		l = append(l, api.Pair{Key: texts[i], Value: texts[i+1]})
	}
	return l
}

// largest: so many pairs, as long as may be, by falling keys.
func largest(n int) []api.Pair {
	var l []api.Pair
	for i := range n {
		l = append(l, api.Pair{Key: repeated(32, string(rune('z'-i))), Value: repeated(64, string(rune('A'+i)))})
	}
	return l
}

func noContexts() [][]api.Pair {
	return [][]api.Pair{
		{{}},
		pairs("", "1"),
		pairs("a", "1", "a", "1"),
		pairs("a", "1", "b", "2", "a", "3"),
		pairs(repeated(33, "k"), ""),
		pairs("a", repeated(65, "v")),
		append(largest(8), pairs("1", "2")...),
	}
}

// contexts: right ones, some of them not by rising keys.
func contexts() [][]api.Pair {
	return [][]api.Pair{
		nil, {}, pairs("a", "1"), pairs("a", "1", "b", "2"), pairs("b", "2", "a", "1"), pairs("a", ""), pairs("\x00", "\xff", "\xff", "\x00"),
		pairs("b", "", "ab", "", "a", ""), largest(1), largest(7), largest(8),
	}
}

// wrongGrants: neither right nor zero, each for one reason.
func wrongGrants() []grant.Grant {
	var l []grant.Grant
	for _, change := range []func(g *grant.Grant){
		func(g *grant.Grant) { g.Id = 0 },
		func(g *grant.Grant) { g.Id = -1 },
		func(g *grant.Grant) { g.Id = math.MaxInt32 + 1 },
		func(g *grant.Grant) { g.Who = "" },
		func(g *grant.Grant) { g.Who = "-" },
		func(g *grant.Grant) { g.Retire = "Ann" },
		func(g *grant.Grant) { g.Ops = -1 },
		func(g *grant.Grant) { g.Ops = 256 },
		func(g *grant.Grant) { g.Need = pairs("a", "1", "a", "1") },
		func(g *grant.Grant) { g.Need = append(largest(8), pairs("1", "2")...) },
	} {
		g := granted(7, 5)
		change(&g)
		l = append(l, g)
	}
	for _, g := range []grant.Grant{{Id: 1}, {Who: "bob"}, {Retire: "cy"}, {Ops: 1}, {Need: pairs("a", "1")}, {Equal: true}} {
		l = append(l, g)
	}
	return l
}

// grants: right ones, and the zero one.
func grants() []grant.Grant {
	return []grant.Grant{
		{}, {Need: []api.Pair{}}, granted(1, 0), granted(math.MaxInt32, 255), {Id: 9, Who: "α2", Need: pairs("b", "2", "a", "1"), Equal: true},
		{Id: 2, Who: repeated(32, "n"), Retire: strings.Repeat("ω", 32), Ops: 1, Need: largest(8)},
	}
}

// granted: an ordinary grant of that number, to bob, which cy may retire.
func granted(n, ops int) grant.Grant {
	return grant.Grant{Id: n, Who: "bob", Retire: "cy", Ops: ops}
}

// manyNumbers: small ones, large ones, and those about the edges.
func manyNumbers() []int {
	return []int{0, 1, -1, 2, 14, 255, 256, 65535, 65536, 1 << 31, 1 << 40, -1 << 31, math.MaxInt, math.MinInt, 0x0102030405060708}
}

// noKinds: of operations.
func noKinds() []int {
	return []int{0, -1, 17, 18, 255, 256, 256 + 1, 256 + 15, 1<<32 + 1, 1<<32 + 16, -15, -16, math.MaxInt, math.MinInt, math.MinInt + 15}
}

// full: a request of that kind with all that it may have.
func full(kind int) script.Op {
	return script.Op{Req: kms.Req{Kind: kind, Who: "ann", Key: "k1", Name: "α", Text: "\x00text\xff", Draw: "draw", Context: pairs("b", "2", "a", "1"), Grant: granted(3, 7), N: -2, M: 5}}
}

// plain: a request of that kind alone.
func plain(kind int) script.Op { return script.Op{Req: kms.Req{Kind: kind}} }

// arming, crashing: the operations 15 and 16.
func arming(at int, keep uint64, torn int) script.Op {
	return script.Op{Req: kms.Req{Kind: 15}, Cut: api.Cut{At: at, Keep: keep, Torn: torn}}
}
func crashing(keep uint64, torn int) script.Op {
	return script.Op{Req: kms.Req{Kind: 16}, Cut: api.Cut{Keep: keep, Torn: torn}}
}

// of: requests' operations.
func of(l ...kms.Req) []script.Op {
	var ops []script.Op
	for _, r := range l {
		ops = append(ops, script.Op{Req: r})
	}
	return ops
}

// lying: the bytes of what lies in a service's store, by its keys.
func lying(k *kms.Kms) map[string]string {
	lies := map[string]string{}
	for _, at := range k.Keys("") {
		v, ok := k.Get(at)
		s, e := value.Print(v)
		if !ok || e != api.OK {
			panic(at)
		}
		lies[at] = s
	}
	return lies
}
