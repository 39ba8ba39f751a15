package kms_test

import (
	"fmt"
	"maps"
	"slices"
	"strings"

	"keyloft/api"
	"keyloft/disk"
	"keyloft/grant"
	"keyloft/journal"
	"keyloft/kms"
	"keyloft/value"
)

// mixer: numbers without a pattern, the same in each run.
func mixer(seed uint64) func(below int) int {
	return func(below int) int {
		seed = seed*6364136223846793005 + 1442695040888963407
		return int(seed >> 33 % uint64(below))
	}
}

// repeated: a text of so many bytes, of this one again and again.
func repeated(n int, of string) string { return strings.Repeat(of, n/len(of)+1)[:n] }

// pairs: of keys and values in turn.
func pairs(texts ...string) []api.Pair {
	var l []api.Pair
	for i := 0; i+1 < len(texts); i += 2 {
		l = append(l, api.Pair{Key: texts[i], Value: texts[i+1]})
	}
	return l
}

// largest: so many pairs, as long as may be.
func largest(n int) []api.Pair {
	var l []api.Pair
	for i := range n {
		l = append(l, api.Pair{Key: repeated(32, string(rune('a'+i))), Value: repeated(64, string(rune('A'+i)))})
	}
	return l
}

func noContexts() [][]api.Pair {
	return [][]api.Pair{
		{{}},
		pairs("", "1"),
		pairs("a", "1", "a", "1"),
		pairs("a", "1", "b", "2", "a", "3"),
		pairs(repeated(33, "k"), ""),
		pairs("a", repeated(65, "v")),
		append(largest(8), pairs("1", "2")...),
	}
}

// wrongNames: but the empty one.
func wrongNames() []string {
	return []string{"-", "-a", "A", "Ann", "a b", "a/b", "k/1", "a_b", "a\x00", "\xff", "\xce", "ά", "é", repeated(33, "a"), strings.Repeat("ω", 33), "\u03ca"}
}

func rightNames() []string {
	return []string{"a", "ann", "0", "9-", "α2", "key-1", repeated(32, "n"), strings.Repeat("ω", 32)}
}

// granted: an ordinary grant of that number, to bob, which cy may retire.
func granted(n, ops int) grant.Grant {
	return grant.Grant{Id: n, Who: "bob", Retire: "cy", Ops: ops}
}

// creating, encrypting, decrypting, making: requests, the three latter with a context.
func creating(who string) kms.Req { return kms.Req{Kind: 1, Who: who, Draw: "draw of " + who} }
func encrypting(who, key, text string, context ...api.Pair) kms.Req {
	return kms.Req{Kind: 2, Who: who, Key: key, Text: text, Draw: "nonce for " + text, Context: context}
}
func decrypting(who, b string, context ...api.Pair) kms.Req {
	return kms.Req{Kind: 3, Who: who, Text: b, Context: context}
}
func making(who, key, draw string, context ...api.Pair) kms.Req {
	return kms.Req{Kind: 4, Who: who, Key: key, Draw: draw, Context: context}
}

// The other kinds' requests.
func eventing(who, key string, n, m int) kms.Req {
	return kms.Req{Kind: 5, Who: who, Key: key, N: n, M: m}
}
func rotating(who, key, draw string) kms.Req {
	return kms.Req{Kind: 6, Who: who, Key: key, Draw: draw}
}
func aliasing(who, key, name string) kms.Req {
	return kms.Req{Kind: 7, Who: who, Key: key, Name: name}
}
func unaliasing(who, name string) kms.Req { return kms.Req{Kind: 8, Who: who, Name: name} }
func granting(who, key string, g grant.Grant) kms.Req {
	return kms.Req{Kind: 9, Who: who, Key: key, Grant: g}
}
func ungranting(who, key string, n int) kms.Req {
	return kms.Req{Kind: 10, Who: who, Key: key, N: n}
}
func turning(draw string) kms.Req        { return kms.Req{Kind: 11, Draw: draw} }
func rewrapping(who, key string) kms.Req { return kms.Req{Kind: 12, Who: who, Key: key} }
func ticking(n int) kms.Req              { return kms.Req{Kind: 13, N: n} }
func sweeping() kms.Req                  { return kms.Req{Kind: 14} }

// bytesOf: a value's.
func bytesOf(v any) string {
	s, e := value.Print(v)
	if e != api.OK {
		panic(fmt.Sprintf("%v: %d", v, e))
	}
	return s
}

// lying: the bytes of what lies in a service's store, by its keys.
func lying(k *kms.Kms) map[string]string {
	lies := map[string]string{}
	for _, at := range k.Keys("") {
		v, ok := k.Get(at)
		if !ok {
			panic(at)
		}
		lies[at] = bytesOf(v)
	}
	return lies
}

// differing: the keys under which two stores have other bytes.
func differing(a, b map[string]string) string {
	out := ""
	for _, at := range slices.Sorted(maps.Keys(both(a, b))) {
		if x, y := a[at], b[at]; x != y {
			out += fmt.Sprintf("%q: %.200q, not %.200q\n", at, x, y)
		}
	}
	return out
}

// both: what has all keys of two.
func both(a, b map[string]string) map[string]string {
	all := maps.Clone(a)
	maps.Copy(all, b)
	return all
}

// texts: those of the journal that lies on a disk of this image.
func texts(image string) []string {
	d, _ := disk.New(len(image) / 64)
	for i := range d.Size() {
		d.Write(i, image[64*i:64*i+64])
	}
	j, e := journal.Open(d)
	if e != api.OK {
		panic(e)
	}
	return j.Texts()
}
