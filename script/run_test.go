package script_test

import (
	"maps"
	"slices"
	"strings"
	"testing"

	"keyloft/api"
	"keyloft/kms"
	"keyloft/script"
)

// printed: operations' script.
func printed(t *testing.T, l ...script.Op) string {
	t.Helper()
	s, e := script.Print(l...)
	if e != api.OK {
		t.Fatalf("%s: %d", short(l), e)
	}
	return s
}

// runs: a script answers just this, and leaves a service that is as one with which all was done.
func runs(t *testing.T, what string, l []script.Op, want ...api.Errno) *kms.Kms {
	t.Helper()
	k, all := script.Run(root(), printed(t, l...))
	if k == nil || !slices.Equal(all, want) {
		t.Fatalf("%s: %v, not %v", what, all, want)
	}
	o := served(t)
	for _, x := range l {
		script.Do(o, x)
	}
	if !maps.Equal(lying(k), lying(o)) || k.Image() != o.Image() {
		t.Fatalf("%s: it lies otherwise", what)
	}
	return k
}

// idles: there is no service, and no answer.
func idles(t *testing.T, what, root, s string) {
	t.Helper()
	if k, all := script.Run(root, s); k != nil || len(all) != 0 {
		t.Errorf("%s: %v, %v", what, k, all)
	}
}

// P16.2: no service of what is no root, nor of what is no script.
func TestRunNone(t *testing.T) {
	right := printed(t, of(creating("ann"))...)
	for _, n := range []int{0, 1, 16, 31, 33, 64, 65536} {
		idles(t, "no root", repeated(n, "root"), right)
		idles(t, "no root, no operations", repeated(n, "root"), "l\x00")
		idles(t, "no root, no script", repeated(n, "root"), "l")
	}
	for _, s := range []string{"", "l", "l\x01", "l\x00\x00", right + "x", right[:len(right)-1], right[1:], "script", scriptOf(plain(17)), scriptOf(plain(0)), listOf(numberOf(14)), printed(t, long(65536)...)[:65535], scriptOf(long(65537)...)} {
		idles(t, "no script", root(), s)
	}
}

// P16.2: a script of no operations leaves a new service, of the draw script.
func TestRunNothing(t *testing.T) {
	k := runs(t, "nothing", nil)
	for _, draw := range []string{"script", "", "l\x00", "Script", "script "} {
		o, _ := kms.New(root(), draw)
		if same := o.Image() == k.Image(); same != (draw == "script") {
			t.Errorf("%q: %v", draw, same)
		}
	}
	other, _ := kms.New(strings.Repeat("s", 32), "script")
	again, all := script.Run(strings.Repeat("s", 32), "l\x00")
	if again == nil || len(all) != 0 || again.Image() != other.Image() || again.Image() == k.Image() {
		t.Error("another root")
	}
}

// P16.2: all is done, in the order, and each answer is told, the refused ones too.
func TestRunAll(t *testing.T) {
	l := of(creating("ann"), creating("Ann"), creating("bob"), rotating("bob", "k1", "x"), rotating("ann", "k1", "x"), ticking(0), ticking(9), aliasing("ann", "k1", "α"), aliasing("ann", "k2", "β"), aliasing("bob", "k2", "α"), eventing("ann", "α", 9, 0))
	k := runs(t, "all", l, api.OK, api.ErrForm, api.OK, api.ErrDenied, api.OK, api.ErrRange, api.OK, api.OK, api.ErrDenied, api.ErrExists, api.ErrKind)
	if keys := k.Keys("k/"); !slices.Equal(keys, []string{"k/k1", "k/k2"}) {
		t.Error(keys)
	}
	if now, ok := k.Get("t"); !ok || now != 9 {
		t.Error(now)
	}
	runs(t, "in another order", of(rotating("ann", "k1", "x"), creating("ann")), api.ErrNone, api.OK)
	ok(t, k, creating("cy"))
}

// P16.2: what comes behind what is refused is done.
func TestRunFailures(t *testing.T) {
	l := append(of(creating("ann")), arming(1, 0, 0))
	l = append(l, of(rotating("ann", "k1", "x"), rotating("ann", "k1", "x"))...)
	l = append(l, crashing(1<<64-1, 64), crashing(0, -1), arming(0, 1<<63, 0))
	l = append(l, of(turning("y"))...)
	runs(t, "failures", l, api.OK, api.OK, api.ErrDown, api.OK, api.OK, api.OK, api.OK, api.OK)
}

// P16.2: texts that are known ahead are decrypted in a script, each run of which makes the same.
func TestRunOpens(t *testing.T) {
	k := served(t)
	ok(t, k, creating("ann"))
	b := ok(t, k, encrypting("ann", "k1", "text", pairs("a", "1")...))
	l := of(creating("ann"), decrypting("ann", b, pairs("a", "1")...), decrypting("ann", b), decrypting("bob", b, pairs("a", "1")...), decrypting("ann", b[1:]))
	for range 3 {
		k := runs(t, "opens", l, api.OK, api.OK, api.ErrCorrupt, api.ErrDenied, api.ErrForm)
		if text := ok(t, k, decrypting("ann", b, pairs("a", "1")...)); text != "text" {
			t.Errorf("%q", text)
		}
	}
	k, all := script.Run(strings.Repeat("s", 32), printed(t, l...))
	if !slices.Equal(all, []api.Errno{api.OK, api.OK, api.ErrCorrupt, api.ErrDenied, api.ErrForm}) || k == nil {
		t.Error("another root, the same draws:", all)
	}
}

// P16.2: 255 operations, and scripts of which the first 65536 bytes count.
func TestRunMany(t *testing.T) {
	want := slices.Repeat([]api.Errno{api.OK}, 255)
	k := runs(t, "many", slices.Repeat(of(ticking(1)), 255), want...)
	if now, _ := k.Get("t"); now != 255 {
		t.Error(now)
	}
	l := long(65536)
	for i := range l {
		l[i].Req.Kind, l[i].Req.Who = 1, "ann"
	}
	k = runs(t, "long", l, want[:4]...)
	other, all := script.Run(root(), printed(t, l...)+"more")
	if other == nil || !slices.Equal(all, want[:4]) || other.Image() != k.Image() {
		t.Error("bytes behind the first ones:", all)
	}
}

// P16.2: scripts without a pattern.
func TestDrawnRun(t *testing.T) {
	a := asker{drawer: drawer{mixer(19)}}
	for range 60 {
		o := served(t)
		a.blobs = nil
		var l []script.Op
		var want []api.Errno
		for range a.draw(60) {
			x := a.op()
			s, e := script.Do(o, x)
			a.learns(x.Req.Kind, s, e)
			l, want = append(l, x), append(want, e)
		}
		runs(t, "drawn", l, want...)
	}
}
