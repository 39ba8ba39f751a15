package script_test

import (
	"slices"
	"testing"

	"keyloft/api"
	"keyloft/kms"
	"keyloft/script"
)

// total: these bytes are a script, which is run to its end and told by these bytes alone, or none, of which there is no service. It answers how many operations there are; -1, if they are none.
func total(t *testing.T, s string) int {
	t.Helper()
	l, e := reads(t, "any bytes", s)
	k, all := script.Run(root(), s)
	if e == api.ErrForm {
		if len(l) != 0 || k != nil || len(all) != 0 {
			t.Fatalf("%.300q: no script, but %s, %v, %v", s, short(l), k, all)
		}
		return -1
	}
	again, f := script.Print(l...)
	if e != api.OK || f != api.OK || again != s[:min(len(s), 65536)] {
		t.Fatalf("%.300q: %d, printed again %d, %.300q", s, e, f, again)
	}
	if k == nil || len(all) != len(l) {
		t.Fatalf("%.300q: %d operations, %d answers", s, len(l), len(all))
	}
	for i, e := range all {
		if e < api.OK || e > api.ErrKind {
			t.Fatalf("%.300q: the answer %d is %d", s, i, e)
		}
	}
	return len(l)
}

// P0.5: all texts of up to two bytes: one of them is a script.
func TestTotalShort(t *testing.T) {
	total(t, "")
	for i := range 256 {
		if n := total(t, oneByte(i)); n != -1 {
			t.Errorf("%q: %d", oneByte(i), n)
		}
		for j := range 256 {
			s := oneByte(i) + oneByte(j)
			if n := total(t, s); (n == 0) != (s == "l\x00") {
				t.Errorf("%q: %d", s, n)
			}
		}
	}
}

// P0.5: bytes without a pattern, of those that scripts are made of above all.
func TestTotalBytes(t *testing.T) {
	draw := mixer(24)
	for range 20000 {
		s := make([]byte, draw(80))
		for i := range s {
			s[i] = byte(draw(256))
			if draw(3) > 0 {
				s[i] = "lllisyn\x00\x00\x01\x04\x0a\x0e\x0f\x10"[draw(15)]
			}
		}
		total(t, string(s))
		total(t, listOf(string(s)))
		total(t, listOf(opOf(plain(1+draw(14))), string(s)))
	}
}

// P0.5: long rows of one byte, and lists within lists.
func TestTotalRows(t *testing.T) {
	for _, n := range []int{8, 9, 10, 255, 1000, 65535, 65536, 65537, 1 << 20} {
		for _, row := range []string{"l", "l\x01", "l\x0a", "l\xff", "l\x00", "\x00", "\xff", "s\x00\x00", "s\xff\xff", "i", "y", "n", opOf(plain(14))} {
			total(t, repeated(n, row))
			total(t, "l\xff"+repeated(n, row))
			total(t, "l\x01l\x0a"+repeated(n, row))
		}
	}
}

// mangled: a script, changed somewhere: bytes turned, left out, put in, or taken from another one.
func mangled(draw func(int) int, s, other string) string {
	at := draw(len(s))
	end := at + draw(min(len(s)-at, 20))
	from := draw(len(other))
	switch draw(4) {
	case 0:
		changed := []byte(s)
		changed[at] ^= 1 << draw(8)
		return string(changed)
	case 1:
		return s[:at] + s[end:]
	case 2:
		return s[:at] + other[from:min(len(other), from+draw(20))] + s[at:]
	}
	return s[:at] + other[from:]
}

// P0.5: scripts that were mangled; some of them are others then, and are run, too.
func TestTotalMangled(t *testing.T) {
	d := drawer{mixer(25)}
	some, none := 0, 0
	last := "l\x00"
	for range 1500 {
		s, e := script.Print(d.ops(6)...)
		if e != api.OK {
			continue
		}
		for range 12 {
			if total(t, mangled(d.draw, s, last)) == -1 {
				none++
			} else {
				some++
			}
		}
		last = s
	}
	if some < 1000 || none < 1000 {
		t.Error(some, none)
	}
}

// P0.5: operations with whatever numbers and texts end, and answer; so they do where they can't be told as bytes.
func TestTotalOperations(t *testing.T) {
	d := drawer{mixer(26)}
	for range 300 {
		k := served(t)
		for range 40 {
			o := d.op()
			if _, e := script.Do(k, o); e < api.OK || e > api.ErrKind {
				t.Fatalf("%s: %d", short(o), e)
			}
		}
		script.Do(k, arming(0, 0, 0))
		if _, e := script.Do(k, script.Op{Req: creating("ann")}); e != api.OK && e != api.ErrFull {
			t.Fatalf("it doesn't go on: %d", e)
		}
	}
}

// P0.5: numbers about all edges, at each place that has one.
func TestTotalNumbers(t *testing.T) {
	for _, n := range manyNumbers() {
		l := of(creating("ann"), granting("ann", "k1", granted(1, 1)))
		for kind := 1; kind <= 14; kind++ {
			for _, m := range []int{n, 1, -1} {
				l = append(l, of(kms.Req{Kind: kind, Who: "ann", Key: "k1", N: n, M: m}, kms.Req{Kind: kind, Who: "ann", Key: "k1", N: m, M: n})...)
			}
		}
		l = append(l, arming(n, uint64(n), n), script.Op{Req: turning("x")}, crashing(uint64(n), n))
		if count := total(t, printed(t, l...)); count != len(l) {
			t.Errorf("%d: %d operations", n, count)
		}
	}
}

// P0.5: what a script answers hangs on its bytes and the root alone.
func TestTotalAgain(t *testing.T) {
	d := drawer{mixer(27)}
	for range 100 {
		s, e := script.Print(d.ops(30)...)
		if e != api.OK {
			continue
		}
		k, all := script.Run(root(), s)
		again, answers := script.Run(root(), s)
		if k.Image() != again.Image() || !slices.Equal(all, answers) {
			t.Fatalf("%.300q: %v, then %v", s, all, answers)
		}
	}
}
