package ring_test

import (
	"strconv"
	"testing"

	"keyloft/api"
	"keyloft/ring"
)

func rewrapped(t *testing.T, r *ring.Ring, p place, m int, other, wrapped string) string {
	t.Helper()
	w, e := r.Rewrap(p.n, p.domain, m, other, p.id, p.version, wrapped)
	if e != api.OK || len(w) != 60 {
		t.Fatalf("Rewrap from %d to %d: %d, with %d bytes", p.n, m, e, len(w))
	}
	return w
}

// refusesRewrap: Rewrap answers the error, and nothing wrapped.
func refusesRewrap(t *testing.T, what string, r *ring.Ring, p place, m int, other, wrapped string, want api.Errno) {
	t.Helper()
	if w, e := r.Rewrap(p.n, p.domain, m, other, p.id, p.version, wrapped); e != want || w != "" {
		t.Errorf("Rewrap, %s: %d, not %d, with %d bytes", what, e, want, len(w))
	}
}

// P11.2: from each domain to each, itself, too: what comes is what Backing tells there.
func TestRewraps(t *testing.T) {
	draw := mixer(31)
	r := ringOf(t, draw(32))
	var homes []place
	for n := 1; n <= 8; n++ {
		for _, of := range []string{"of", "another"} {
			homes = append(homes, place{n, domainOf(t, r, n, of), "", 0})
		}
	}
	for i, from := range homes {
		for _, to := range homes {
			from.id, from.version = draw(i*2), 1+i/2
			to.id, to.version = from.id, from.version
			row := backingOf(t, r, from, "draw")
			again := rewrapped(t, r, from, to.n, to.domain, row)
			if again != backingOf(t, r, to, "draw") || (again == row) != (from == to) {
				t.Errorf("from %d to %d: %x behind %x", from.n, to.n, again, row)
			}
		}
	}
}

// P11.3: behind rows of Rewraps it is the same key, also such a one as no draw tells; the old rows are what they were, and no other domain's.
func TestRowsOfRewraps(t *testing.T) {
	draw := mixer(32)
	root := draw(32)
	r := ringOf(t, root)
	for i := range 12 {
		of := draw(i)
		p := place{1, domainOf(t, r, 1, of), draw(i * 32 / 11), 1 + i%8}
		_, info := p.infos()
		row, key := backingOf(t, r, p, "draw"), keyOf("backing", "draw", info)
		if i%2 == 1 {
			key = draw(32)
			row = wrappedOf(keyOf("domain", of, "\x00\x00\x00\x01"), "b"+info, key)
		}
		for step := range 40 {
			q := p
			q.n = 1 + int(draw(1)[0])%8
			q.domain = domainOf(t, r, q.n, draw(5))
			next := rewrapped(t, r, p, q.n, q.domain, row)
			tells(t, r, q, next, key)
			tells(t, r, p, row, key)
			refusesKey(t, "the old row there, step "+strconv.Itoa(step), r, q, row, api.ErrCorrupt)
			refusesKey(t, "the new row here, step "+strconv.Itoa(step), r, p, next, api.ErrCorrupt)
			p, row = q, next
		}
	}
}

// P11.3: there and back it is the same row; whatever the way, it is the same one.
func TestWaysOfRewraps(t *testing.T) {
	r := ringOf(t, counted(32))
	at := func(n int) place { return place{n, domainOf(t, r, n, "of"), "k1", 4} }
	first := backingOf(t, r, at(1), "draw")
	row := first
	for n := 1; n < 8; n++ {
		row = rewrapped(t, r, at(n), n+1, at(n+1).domain, row)
		if straight := rewrapped(t, r, at(1), n+1, at(n+1).domain, first); straight != row {
			t.Errorf("straight to %d it is another row", n+1)
		}
		if back := rewrapped(t, r, at(n+1), 1, at(1).domain, row); back != first {
			t.Errorf("back from %d it is another row", n+1)
		}
	}
}

// P11.2: Key's errors go ahead of the other domain's, ErrRange of its row's.
func TestOrderOfErrors(t *testing.T) {
	draw := mixer(33)
	r := ringOf(t, draw(32))
	from, other := domainOf(t, r, 1, "of"), domainOf(t, r, 2, "of")
	row := backingOf(t, r, place{1, from, "k1", 1}, "draw")
	numbers := map[int]api.Errno{1: api.OK, 0: api.ErrRange, 9: api.ErrRange}
	ids := map[string]api.Errno{"k1": api.OK, noughts(33): api.ErrLong}
	rows := func(right string) map[string]api.Errno {
		return map[string]api.Errno{right: api.OK, right[1:]: api.ErrForm, right + "\x00": api.ErrForm, flip(right, 7): api.ErrCorrupt, noughts(60): api.ErrCorrupt}
	}
	// first: the first of the errors, in the order in which the promise names them.
	first := func(l ...api.Errno) api.Errno {
		for _, e := range l {
			if e != api.OK {
				return e
			}
		}
		return api.OK
	}
	for n, a := range numbers {
		for version, b := range numbers {
			for id, c := range ids {
				for domain, d := range rows(from) {
					p := place{n, domain, id, version}
					if e := first(a, b, c, d); e != api.OK {
						refusesPlace(t, "of many errors", r, p, row, e)
					}
					for wrapped, e := range rows(row) {
						if e := first(a, b, c, d, e); e != api.OK {
							refusesKey(t, "of many errors", r, p, wrapped, e)
						}
						for _, m := range []int{2, 0, 9} {
							for there, g := range rows(other) {
								f := map[bool]api.Errno{true: api.OK, false: api.ErrRange}[m == 2]
								if e := first(a, b, c, d, e, f, g); e != api.OK {
									refusesRewrap(t, "of many errors", r, p, m, there, wrapped, e)
								}
							}
						}
					}
				}
			}
		}
	}
}

// P11.2: other domains' wrong numbers, and rows that aren't theirs.
func TestWrongOthers(t *testing.T) {
	draw := mixer(34)
	r := ringOf(t, draw(32))
	p := place{3, domainOf(t, r, 3, "of"), "k1", 1}
	row, other := backingOf(t, r, p, "draw"), domainOf(t, r, 4, "of")
	for _, wrong := range wrongNumbers() {
		for _, domain := range []string{other, "", noughts(60)} {
			refusesRewrap(t, "to "+strconv.Itoa(wrong), r, p, wrong, domain, row, api.ErrRange)
		}
	}
	for n := range 130 {
		if n != 60 {
			refusesRewrap(t, "to a domain of "+strconv.Itoa(n), r, p, 4, (other + draw(130))[:n], row, api.ErrForm)
		}
	}
	for bit := range 480 {
		refusesRewrap(t, "to a domain with bit "+strconv.Itoa(bit), r, p, 4, flip(other, bit), row, api.ErrCorrupt)
		refusesRewrap(t, "of a row with bit "+strconv.Itoa(bit), r, p, 4, other, flip(row, bit), api.ErrCorrupt)
	}
	for n := 1; n <= 8; n++ {
		if n != 4 {
			refusesRewrap(t, "to 4 as "+strconv.Itoa(n), r, p, n, other, row, api.ErrCorrupt)
		}
	}
	refusesRewrap(t, "the domains changed", r, place{4, other, "k1", 1}, 3, p.domain, row, api.ErrCorrupt)
	refusesRewrap(t, "another id", r, place{3, p.domain, "k2", 1}, 4, other, row, api.ErrCorrupt)
	refusesRewrap(t, "another version", r, place{3, p.domain, "k1", 2}, 4, other, row, api.ErrCorrupt)
	refusesRewrap(t, "another root's", r, p, 4, domainOf(t, ringOf(t, draw(32)), 4, "of"), row, api.ErrCorrupt)
	refusesRewrap(t, "the row as a domain", r, p, 4, row, row, api.ErrCorrupt)
	rewrapped(t, r, p, 4, other, row)
}
