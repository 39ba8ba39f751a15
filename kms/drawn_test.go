package kms_test

import (
	"strconv"
	"testing"

	"keyloft/api"
	"keyloft/grant"
	"keyloft/kms"
)

// drawer: requests without a pattern, of few names, so that they meet.
type drawer struct {
	draw  func(below int) int
	blobs []string
}

// one: of these.
func (d *drawer) one(of ...string) string { return of[d.draw(len(of))] }

func (d *drawer) who() string {
	return d.one("ann", "ann", "ann", "ann", "ann", "bob", "bob", "cy", "", "Ann")
}

func (d *drawer) key() string {
	return d.one("k1", "k1", "k1", "k1", "k2", "k2", "k2", "k3", "k3", "k4", "k5", "α", "β", "k9", "")
}

func (d *drawer) context() []api.Pair {
	switch d.draw(7) {
	case 0:
		return pairs("a", "1")
	case 1:
		return pairs("b", "2", "a", "1")
	case 2:
		return pairs("a", "1", "b", "2")
	case 3:
		return noContexts()[d.draw(len(noContexts()))]
	}
	return nil
}

func (d *drawer) grant() grant.Grant {
	g := grant.Grant{Id: 1 + d.draw(4), Who: d.who(), Retire: d.one("", "cy", "bob"), Ops: d.draw(257), Need: d.context(), Equal: d.draw(2) == 0}
	if d.draw(5) == 0 {
		g.Id = 9999 + d.draw(3)
	}
	return g
}

// blob: one that was made, some of them cut or turned.
func (d *drawer) blob() string {
	if len(d.blobs) == 0 {
		return "none"
	}
	s := []byte(d.blobs[d.draw(len(d.blobs))])
	switch d.draw(12) {
	case 0:
		s[d.draw(len(s))] ^= 1 << d.draw(8)
	case 1:
		s = s[:d.draw(len(s))]
	}
	return string(s)
}

// kinds: some of them more often than others.
var kinds = []int{1, 2, 2, 2, 2, 3, 3, 3, 3, 3, 3, 4, 4, 5, 5, 5, 5, 6, 6, 7, 7, 8, 9, 9, 10, 10, 11, 12, 12, 13, 13, 14}

func (d *drawer) request() kms.Req {
	r := kms.Req{Kind: kinds[d.draw(len(kinds))], Who: d.who(), Key: d.key(), Name: d.one("α", "β", "k2", "k6", "γ-", "-", ""), Draw: d.one("", "x", "y", strconv.Itoa(d.draw(1000))), Context: d.context(), Grant: d.grant()}
	r.N, r.M = d.draw(7), d.draw(8)
	switch r.Kind {
	case 2:
		r.Text = repeated(d.draw(40), "text")
		if d.draw(8) == 0 {
			r.Text = repeated(1020+d.draw(8), "long")
		}
	case 3:
		r.Text = d.blob()
	case 10:
		r.N = d.grant().Id
	}
	if d.draw(60) == 0 {
		r.Kind = d.draw(24) - 4
	}
	return r
}

// drawn: a request, with this answer and this error by the words, too; the power may fail in it. It answers the error.
func (b *beside) drawn(d *drawer) api.Errno {
	b.t.Helper()
	r := d.request()
	next := b.s.copied()
	told, want := next.does(r)
	answer, e := b.k.Do(r)
	if e == api.ErrDown && want == api.OK {
		if answer != "" {
			b.t.Fatalf("%+.300v: down, %q", r, answer)
		}
		if len(differing(lying(b.k), next.lies())) == 0 {
			b.s = next
		}
		b.same()
		return e
	}
	if answer != told || e != want {
		b.t.Fatalf("%+.300v: %d, %q, by the words %d, %q", r, e, answer, want, told)
	}
	if e == api.OK {
		b.s = next
	}
	if e == api.OK && r.Kind == 2 {
		d.blobs = append(d.blobs, answer)
	}
	if e == api.OK && r.Kind == 4 {
		d.blobs = append(d.blobs, answer[32:])
	}
	b.same()
	return e
}

// P15.1, P15.2, P15.3: requests without a pattern, with failures among them, against the chapter's words.
func TestDrawnRequests(t *testing.T) {
	draw := mixer(15)
	var ends [16]int
	for range 150 {
		b, d := begun(t), &drawer{draw: draw}
		for range 250 {
			switch draw(12) {
			case 0:
				b.k.Arm(api.Cut{At: draw(30), Keep: uint64(draw(1<<20)) * 0x9e3779b97f4a7c15, Torn: draw(70) - 2})
			case 1:
				b.k.Crash(uint64(draw(4)), draw(65))
				b.same()
			}
			ends[b.drawn(d)]++
		}
	}
	for _, e := range []api.Errno{api.OK, api.ErrRange, api.ErrForm, api.ErrLong, api.ErrNone, api.ErrExists, api.ErrFull, api.ErrDown, api.ErrCorrupt, api.ErrState, api.ErrDenied, api.ErrExpired, api.ErrPending, api.ErrKind} {
		if ends[e] < 20 {
			t.Errorf("error %d came %d times alone", e, ends[e])
		}
	}
}
