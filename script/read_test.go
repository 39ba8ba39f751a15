package script_test

import (
	"slices"
	"testing"

	"keyloft/api"
	"keyloft/script"
)

// reads: Read answers what the words say of these bytes.
func reads(t *testing.T, what, s string) ([]script.Op, api.Errno) {
	t.Helper()
	l, e := script.Read(s)
	want, f := readOf(s)
	if e != f || !sameOps(l, want) {
		t.Fatalf("%s: %.200q: %d, %s, by the words %d, %s", what, s, e, short(l), f, short(want))
	}
	return l, e
}

// isNone: Read refuses these bytes, and so it does by the words.
func isNone(t *testing.T, what, s string) {
	t.Helper()
	if _, e := reads(t, what, s); e != api.ErrForm {
		t.Fatalf("%s: %.200q: %d", what, s, e)
	}
}

// isOne: it is a script of so many operations.
func isOne(t *testing.T, what, s string, n int) {
	t.Helper()
	if l, e := reads(t, what, s); e != api.OK || len(l) != n {
		t.Fatalf("%s: %.200q: %d, %d operations", what, s, e, len(l))
	}
}

// fields: the bytes of a request's values, one by one.
func fields(kind int) []string {
	return []string{numberOf(kind), textOf("ann"), textOf("k1"), textOf("α"), textOf("text"), textOf("draw"),
		textOf(contextOf(pairs("a", "1"))), grantOf(granted(1, 1)), numberOf(5), numberOf(-5)}
}

// with: a script of one operation, one of whose values is another one.
func with(values []string, at int, v string) string {
	values = slices.Clone(values)
	values[at] = v
	return listOf(listOf(values...))
}

// P16.1: a script of no operations, and what is nearly one.
func TestReadExample(t *testing.T) {
	isOne(t, "the example", "l\x00", 0)
	for _, s := range []string{"", "l", "l\x01", "l\x00\x00", "l\x00l\x00", "\x00", "L\x00", " l\x00", "y", "n", numberOf(0), numberOf(15), textOf(""), textOf("l\x00"), "s\x00\x00", "i"} {
		isNone(t, "no script", s)
	}
}

// P16.1: values that aren't of an operation's form.
func TestReadNoOperations(t *testing.T) {
	for _, v := range []string{numberOf(14), textOf(""), textOf("ann"), "y", "n", listOf(), listOf(listOf()), listOf(numberOf(14)), listOf(opOf(plain(14))),
		listOf("y"), listOf(textOf("\x0e")), listOf(numberOf(15)), listOf(numberOf(16), numberOf(0), numberOf(0))} {
		isNone(t, "no operation", listOf(v))
		isNone(t, "no operation in front", listOf(v, opOf(plain(14))))
		isNone(t, "no operation behind", listOf(opOf(full(1)), v))
	}
	isNone(t, "an operation without a list about it", opOf(plain(14)))
	isNone(t, "a cut without a list about it", opOf(arming(1, 1, 1)))
	isNone(t, "a list more about it", listOf(scriptOf(plain(14))))
}

// P16.1: a request has just ten values, the kinds 15 and 16 just four.
func TestReadCounts(t *testing.T) {
	for kind := 1; kind <= 16; kind++ {
		cut := []string{numberOf(kind), numberOf(1), numberOf(2), numberOf(3)}
		for n := range 12 {
			long := append(fields(kind), numberOf(0), numberOf(0))[:n]
			short := append(cut, fields(kind)...)[:n]
			if n != 10 || kind > 14 {
				isNone(t, "a request's values", listOf(listOf(long...)))
			} else {
				isOne(t, "a request's values", listOf(listOf(long...)), 1)
			}
			if n != 4 || kind < 15 {
				isNone(t, "a cut's values", listOf(listOf(short...)))
			} else {
				isOne(t, "a cut's values", listOf(listOf(short...)), 1)
			}
		}
		bare := []string{numberOf(kind), textOf(""), textOf(""), textOf(""), textOf(""), textOf(""), textOf(""), listOf(), numberOf(0), numberOf(0)}
		if kind > 14 {
			isNone(t, "a failure told as a request", listOf(listOf(bare...)))
		}
	}
}

// P16.1: of no kind, whatever values come behind it.
func TestReadNoKinds(t *testing.T) {
	for _, kind := range noKinds() {
		isNone(t, "no kind", with(fields(1), 0, numberOf(kind)))
		isNone(t, "no kind", listOf(listOf(numberOf(kind))))
		isNone(t, "no kind of a cut", listOf(listOf(numberOf(kind), numberOf(0), numberOf(0), numberOf(0))))
	}
}

// P16.1: each value is of its type, at each place.
func TestReadTypes(t *testing.T) {
	types := []string{numberOf(1), textOf(""), textOf("\x01a\x011"), "y", "n", listOf(), listOf(numberOf(1)), listOf(textOf("a")), grantOf(granted(1, 1))}
	for kind := 1; kind <= 14; kind++ {
		for at := range 10 {
			ok := 0
			for _, v := range types {
				if _, e := reads(t, "a value", with(fields(kind), at, v)); e == api.OK {
					ok++
				}
			}
			if want := []int{1, 2, 2, 2, 2, 2, 2, 2, 1, 1}[at]; ok != want {
				t.Errorf("at %d %d types are read", at, ok)
			}
		}
	}
	for kind := 15; kind <= 16; kind++ {
		cut := []string{numberOf(kind), numberOf(1), numberOf(2), numberOf(3)}
		for at := 1; at < 4; at++ {
			isOne(t, "a number", with(cut, at, numberOf(1)), 1)
			for _, v := range types[1:] {
				isNone(t, "a cut's value", with(cut, at, v))
			}
		}
		for _, v := range types {
			isNone(t, "a cut's kind", with(cut, 0, v))
		}
	}
}

// P16.1: a context stands there as its text, by rising keys.
func TestReadContexts(t *testing.T) {
	texts := map[string]bool{
		"": true, "\x01a\x00": true, "\x01a\x011\x01b\x012": true, contextOf(largest(8)): true,
		"\x01b\x012\x01a\x011": false, "\x01a\x011\x01a\x011": false, "\x00\x00": false, "a": false, "\x01": false, "\x01a": false,
		"\x01a\x021": false, "\x01a\x0112": false, "\x02a\x011": false, "\x00\x011": false,
		"\x21" + repeated(33, "k") + "\x00": false, "\x01a\x41" + repeated(65, "v"): false,
		contextOf(append(largest(8), pairs("1", "2")...)): false, contextOf(largest(8)) + "\x01": false,
	}
	for text, right := range texts {
		for kind := 1; kind <= 14; kind++ {
			s := with(fields(kind), 6, textOf(text))
			if _, e := reads(t, "a context", s); (e == api.OK) != right {
				t.Errorf("%q: %d", text, e)
			}
			need := listOf(numberOf(1), textOf("bob"), textOf(""), numberOf(1), textOf(text), "n")
			if _, e := reads(t, "a grant's need", with(fields(kind), 7, need)); (e == api.OK) != right {
				t.Errorf("%q: %d", text, e)
			}
		}
	}
}

// P16.1: a grant stands there as its list, none as an empty one.
func TestReadGrants(t *testing.T) {
	for kind := 1; kind <= 14; kind++ {
		for _, g := range grants() {
			isOne(t, "a grant", with(fields(kind), 7, grantOf(g)), 1)
		}
		for _, g := range wrongGrants() {
			isNone(t, "a wrong grant", with(fields(kind), 7, grantOf(g)))
		}
	}
	values := []string{numberOf(0), textOf(""), textOf(""), numberOf(0), textOf(""), "n"}
	isNone(t, "none as a list of six", with(fields(9), 7, listOf(values...)))
	values[0], values[1] = numberOf(1), textOf("bob")
	isOne(t, "a small one", with(fields(9), 7, listOf(values...)), 1)
	isNone(t, "a value less", with(fields(9), 7, listOf(values[:5]...)))
	isNone(t, "a value more", with(fields(9), 7, listOf(append(values, "n")...)))
	isNone(t, "in a list", with(fields(9), 7, listOf(listOf(values...))))
	for at := range values {
		for _, v := range []string{textOf("-"), numberOf(-1), listOf(), listOf(numberOf(1)), listOf(values[at])} {
			isNone(t, "a wrong value", with(fields(9), 7, with(values, at, v)[2:]))
		}
	}
}

// P16.1: of a script the first 65536 bytes count, whatever comes behind them.
func TestReadFirstBytes(t *testing.T) {
	whole := scriptOf(long(65536)...)
	want, e := script.Read(whole)
	if e != api.OK || len(want) != 4 {
		t.Fatal(e, len(want))
	}
	for _, more := range []string{"\x00", "l\x00", "x", repeated(65536, "more"), whole} {
		l, e := script.Read(whole + more)
		if e != api.OK || !sameOps(l, want) {
			t.Errorf("%d bytes more: %d, %d operations", len(more), e, len(l))
		}
	}
	isNone(t, "a byte less", whole[:65535])
	isNone(t, "the last byte ahead", whole[65535:]+whole[:65535])
	for _, n := range []int{65000, 65534, 65535} {
		isNone(t, "bytes more within them", scriptOf(long(n)...)+"x")
		isNone(t, "bytes more about the last one", scriptOf(long(n)...)+"xxxx")
		isOne(t, "no bytes more", scriptOf(long(n)...), 4)
	}
	isNone(t, "a byte too long", scriptOf(long(65537)...))
	isNone(t, "far too long", scriptOf(long(200000)...))
}

// P16.1: up to 255 operations, each of whatever kind.
func TestReadMany(t *testing.T) {
	for n := range 256 {
		var l []script.Op
		for i := range n {
			l = append(l, []script.Op{plain(1 + i%14), arming(i, uint64(n), -i), full(1 + n%14)}[i%3])
		}
		isOne(t, "many", scriptOf(l...), n)
		isNone(t, "one missing", scriptOf(append(l, plain(14))...)[:len(scriptOf(l...))])
	}
}

// P16.1: a script cut short anywhere is none, nor is one with more behind it.
func TestReadCutShort(t *testing.T) {
	whole := scriptOf(full(9), arming(1, 2, 3), plain(14), crashing(1<<63, -1), full(2))
	isOne(t, "whole", whole, 5)
	for n := range whole {
		isNone(t, "cut short", whole[:n])
		isNone(t, "more behind it", whole+whole[:n]+"x")
	}
}

// P16.1: each byte changed: what is a script still is another one, and has no other bytes.
func TestReadChanged(t *testing.T) {
	whole := scriptOf(full(9), arming(1, 2, 3), full(2))
	same, _ := script.Read(whole)
	kept := 0
	for at := range whole {
		for by := 1; by < 256; by++ {
			s := []byte(whole)
			s[at] ^= byte(by)
			l, e := reads(t, "a byte changed", string(s))
			if e != api.OK {
				continue
			}
			kept++
			if again, e := script.Print(l...); e != api.OK || again != string(s) || sameOps(l, same) {
				t.Fatalf("%q: printed again %d, %q", s, e, again)
			}
		}
	}
	if kept < 10000 {
		t.Error(kept)
	}
}

// P16.1: lists of an answer are new: none is shared.
func TestReadShares(t *testing.T) {
	s := scriptOf(full(9), full(9))
	l, _ := script.Read(s)
	again, _ := script.Read(s)
	l[0].Req.Context[0].Value = "changed"
	l[1].Req.Context = append(l[1].Req.Context[:1], pairs("x", "y")...)
	if !sameOps(again, sorted([]script.Op{full(9), full(9)})) || l[1].Req.Context[0].Value != "1" {
		t.Error("lists are shared")
	}
	third, e := script.Read(s)
	if e != api.OK || !sameOps(third, again) {
		t.Error("it is kept")
	}
}
