package script_test

import (
	"fmt"
	"slices"
	"strings"
	"testing"

	"keyloft/api"
	"keyloft/grant"
	"keyloft/kms"
	"keyloft/script"
)

// prints: Print answers these bytes, and Read reads the operations again.
func prints(t *testing.T, what, want string, l ...script.Op) {
	t.Helper()
	s, e := script.Print(l...)
	if e != api.OK || s != want {
		t.Fatalf("%s: %d, %.300q, not %.300q", what, e, s, want)
	}
	back, e := script.Read(s)
	if e != api.OK || !sameOps(back, sorted(l)) {
		t.Fatalf("%s: read again: %d, %s, not %s", what, e, short(back), short(l))
	}
}

// refuses: Print answers this error, and nothing.
func refuses(t *testing.T, what string, want api.Errno, l ...script.Op) {
	t.Helper()
	if s, e := script.Print(l...); e != want || s != "" {
		t.Fatalf("%s: %d, %.80q, not %d", what, e, s, want)
	}
}

// noForm: the operation is refused, wherever it stands.
func noForm(t *testing.T, what string, o script.Op) {
	t.Helper()
	refuses(t, what, api.ErrForm, o)
	refuses(t, what+", in front", api.ErrForm, o, full(1), plain(14))
	refuses(t, what+", at the end", api.ErrForm, arming(1, 2, 3), full(1), o)
	refuses(t, what+", twice", api.ErrForm, o, plain(11), o)
}

// P16.1: the chapter's example, and scripts written out.
func TestPrintWrittenOut(t *testing.T) {
	prints(t, "no operations", "l\x00")
	prints(t, "no operations, of a list", "l\x00", []script.Op{}...)
	nought := "i\x00\x00\x00\x00\x00\x00\x00"
	prints(t, "a sweep", "l\x01"+"l\x0a"+nought+"\x0e"+"s\x00\x00s\x00\x00s\x00\x00s\x00\x00s\x00\x00"+"s\x00\x00"+"l\x00"+nought+"\x00"+nought+"\x00", plain(14))
	prints(t, "a cut", "l\x01"+"l\x04"+nought+"\x0f"+nought+"\x02"+"i\xff\xff\xff\xff\xff\xff\xff\xfe"+nought+"\x40", arming(2, 1<<64-2, 64))
	prints(t, "a crash", "l\x01"+"l\x04"+nought+"\x10"+nought+"\x00"+"i\x80\x00\x00\x00\x00\x00\x00\x01"+"i\xff\xff\xff\xff\xff\xff\xff\xff", crashing(1<<63+1, -1))
	o := full(9)
	o.Req.Grant = grant.Grant{Id: 258, Who: "bob", Retire: "", Ops: 255, Need: pairs("a", "1"), Equal: true}
	prints(t, "all", "l\x01"+"l\x0a"+nought+"\x09"+"s\x00\x03anns\x00\x02k1s\x00\x02\xce\xb1s\x00\x06\x00text\xffs\x00\x04draw"+
		"s\x00\x08\x01a\x011\x01b\x012"+"l\x06i\x00\x00\x00\x00\x00\x00\x01\x02s\x00\x03bobs\x00\x00"+nought+"\xffs\x00\x04\x01a\x011y"+
		"i\xff\xff\xff\xff\xff\xff\xff\xfe"+nought+"\x05", o)
}

// P16.1, P16.3: each kind, alone and behind another one, with all that it may have and without.
func TestPrintKinds(t *testing.T) {
	for kind := 1; kind <= 14; kind++ {
		for _, o := range []script.Op{full(kind), plain(kind)} {
			prints(t, "a request", scriptOf(o), o)
			prints(t, "two", scriptOf(full(4), o), full(4), o)
			prints(t, "three", scriptOf(o, crashing(1, 1), o), o, crashing(1, 1), o)
		}
	}
	for kind := 15; kind <= 16; kind++ {
		for _, n := range manyNumbers() {
			for _, c := range []api.Cut{{At: n}, {Keep: uint64(n)}, {Torn: n}, {At: n, Keep: 1 << 63, Torn: 1}, {At: n, Keep: uint64(n), Torn: n}} {
				o := script.Op{Req: kms.Req{Kind: kind}, Cut: c}
				prints(t, "a failure", scriptOf(o), o)
			}
		}
		o := plain(kind)
		o.Req.Context, o.Req.Grant.Need = []api.Pair{}, []api.Pair{}
		prints(t, "a failure with empty lists", scriptOf(plain(kind)), o)
	}
}

// P16.1, P16.3: each field by itself, of each kind: none is told for another one, and none of them is looked at by kind.
func TestPrintFields(t *testing.T) {
	for kind := 1; kind <= 14; kind++ {
		for _, text := range []string{"a", "Ann", "\x00", "\xff\xfe", "k1", "l\x00", repeated(1024, "text"), repeated(256, "x"), repeated(13000, "y")} {
			for i := range 5 {
				o := plain(kind)
				*[]*string{&o.Req.Who, &o.Req.Key, &o.Req.Name, &o.Req.Text, &o.Req.Draw}[i] = text
				prints(t, "a text", scriptOf(o), o)
			}
		}
		for _, n := range manyNumbers() {
			o, p := plain(kind), plain(kind)
			o.Req.N, p.Req.M = n, n
			prints(t, "numbers", scriptOf(o, p), o, p)
		}
		for _, context := range contexts() {
			o := plain(kind)
			o.Req.Context = context
			prints(t, "a context", scriptOf(o), o)
		}
		for _, g := range grants() {
			o := plain(kind)
			o.Req.Grant = g
			prints(t, "a grant", scriptOf(o), o)
		}
	}
}

// P16.1: a script hangs on no order of pairs.
func TestPrintOrders(t *testing.T) {
	o, p := full(9), full(9)
	o.Req.Context, p.Req.Context = pairs("a", "1", "b", "2", "c", "3"), pairs("c", "3", "a", "1", "b", "2")
	o.Req.Grant.Need, p.Req.Grant.Need = p.Req.Context, o.Req.Context
	s, _ := script.Print(o)
	prints(t, "another order", s, p)
}

// P16.1: what is of no kind is refused, whatever else it has.
func TestPrintNoKinds(t *testing.T) {
	for _, kind := range noKinds() {
		noForm(t, "no kind", plain(kind))
		noForm(t, "no kind, all else", full(kind))
		noForm(t, "no kind, a cut", script.Op{Req: kms.Req{Kind: kind}, Cut: api.Cut{At: 1}})
	}
	noForm(t, "nothing", script.Op{})
}

// P16.1: a context that is none, and a grant that is neither right nor zero, are refused of each kind.
func TestPrintWrongFields(t *testing.T) {
	for kind := 1; kind <= 16; kind++ {
		for _, context := range noContexts() {
			for _, o := range []script.Op{plain(kind), full(kind)} {
				o.Req.Context = context
				noForm(t, "no context", o)
			}
		}
		for _, g := range wrongGrants() {
			for _, o := range []script.Op{plain(kind), full(kind)} {
				o.Req.Grant = g
				noForm(t, fmt.Sprintf("a wrong grant %v", g), o)
			}
		}
	}
}

// P16.1: a request has no cut, and the kinds 15 and 16 have nothing else.
func TestPrintCuts(t *testing.T) {
	for _, n := range manyNumbers()[1:] {
		for _, c := range []api.Cut{{At: n}, {Keep: uint64(n)}, {Torn: n}} {
			for kind := 1; kind <= 14; kind++ {
				o, p := plain(kind), full(kind)
				o.Cut, p.Cut = c, c
				noForm(t, "a request with a cut", o)
				noForm(t, "a full request with a cut", p)
			}
		}
	}
	for kind := 15; kind <= 16; kind++ {
		for i, change := range []func(r *kms.Req){
			func(r *kms.Req) { r.Who = "ann" },
			func(r *kms.Req) { r.Key = "k1" },
			func(r *kms.Req) { r.Name = "\x00" },
			func(r *kms.Req) { r.Text = " " },
			func(r *kms.Req) { r.Draw = "x" },
			func(r *kms.Req) { r.Context = pairs("a", "1") },
			func(r *kms.Req) { r.Grant = granted(1, 1) },
			func(r *kms.Req) { r.N = 1 },
			func(r *kms.Req) { r.M = -1 },
			func(r *kms.Req) { r.N, r.M = 1, -1 },
			func(r *kms.Req) { *r = full(r.Kind).Req },
		} {
			o, p := plain(kind), arming(1, 1, 1)
			p.Req.Kind = kind
			change(&o.Req)
			change(&p.Req)
			noForm(t, fmt.Sprint("a failure with something else ", i), o)
			noForm(t, fmt.Sprint("a cut with something else ", i), p)
		}
	}
}

// P16.1: texts have at most 65535 bytes; a script with one has more than 65536 anyhow.
func TestPrintLongTexts(t *testing.T) {
	for _, n := range []int{65535, 65536, 65537, 131072, 1 << 20} {
		for i := range 5 {
			o := plain(1)
			*[]*string{&o.Req.Who, &o.Req.Key, &o.Req.Name, &o.Req.Text, &o.Req.Draw}[i] = repeated(n, "long")
			refuses(t, "a long text", api.ErrLong, o)
			refuses(t, "behind another one", api.ErrLong, plain(1), o)
			refuses(t, "ahead of what isn't of the form", api.ErrForm, o, plain(17))
			o.Cut.Torn = 1
			refuses(t, "in what isn't of the form", api.ErrForm, o)
			o.Cut.Torn, o.Req.Kind = 0, 15
			refuses(t, "in a cut", api.ErrForm, o)
		}
	}
}

// P16.1: at most 255 operations.
func TestPrintMany(t *testing.T) {
	for _, o := range []script.Op{plain(14), arming(1, 2, 3), full(2)} {
		for _, n := range []int{100, 254, 255} {
			l := slices.Repeat([]script.Op{o}, n)
			prints(t, "many", scriptOf(l...), l...)
		}
		for _, n := range []int{256, 257, 511, 512, 65536, 65536 + 1} {
			l := slices.Repeat([]script.Op{o}, n)
			refuses(t, "too many", api.ErrLong, l...)
			l[n-1] = plain(0)
			refuses(t, "too many, the last one not of the form", api.ErrForm, l...)
		}
	}
}

// long: operations whose script has so many bytes, of several texts.
func long(n int) []script.Op {
	l := slices.Repeat([]script.Op{full(2)}, 4)
	rest := n - len(scriptOf(l...))
	for i := range l {
		l[i].Req.Text += strings.Repeat("t", rest/4)
	}
	l[1].Req.Draw += strings.Repeat("d", rest%4)
	return l
}

// P16.1: a script has at most 65536 bytes.
func TestPrintLongScripts(t *testing.T) {
	for n := 65530; n <= 65536; n++ {
		l := long(n)
		if len(scriptOf(l...)) != n {
			t.Fatal(n, len(scriptOf(l...)))
		}
		prints(t, "a long script", scriptOf(l...), l...)
	}
	for _, n := range []int{65537, 65538, 65600, 70000, 131072, 200000} {
		refuses(t, "a script too long", api.ErrLong, long(n)...)
		refuses(t, "a script too long, and not of the form", api.ErrForm, append(long(n), plain(-1))...)
	}
}

// P16.1: what is handed in is not changed, its spare room neither.
func TestPrintChangesNothing(t *testing.T) {
	spare := append(largest(8), pairs("spare", "room")...)
	o := full(9)
	o.Req.Context, o.Req.Grant.Need = spare[:8], spare[:7]
	l := append(make([]script.Op, 0, 3), o, arming(1, 2, 3), plain(14))
	before, ahead := slices.Clone(spare), slices.Clone(l)
	if s, e := script.Print(l[:2]...); e != api.OK || s != scriptOf(l[:2]...) {
		t.Errorf("%d, %q", e, s)
	}
	if !slices.Equal(spare, before) || !sameOps(l, ahead) {
		t.Error("what was handed in is changed")
	}
}
