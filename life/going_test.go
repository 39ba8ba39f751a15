package life_test

import (
	"testing"

	"keyloft/api"
	"keyloft/life"
)

// P14.3: what is gone stays gone, and is never used, whatever comes whenever.
func TestGoneStaysGone(t *testing.T) {
	for _, l := range rightLives() {
		if l.State != 4 {
			continue
		}
		for _, now := range append(rightTimes(), wrongTimes()...) {
			if e := life.Use(l, now); e != useOf(l, now) || e != api.ErrNone && e != api.ErrForm {
				t.Fatalf("%+v used at %d: %d", l, now, e)
			}
			for kind := -1; kind <= 9; kind++ {
				for _, n := range []int{0, 1, 7, 1000, latest, -1, latest + 1} {
					if got, e := life.Step(l, life.Event{Kind: kind, N: n}, now); e == api.OK && (kind != 7 || got != l) {
						t.Fatalf("%+v, %d of %d at %d: %+v", l, kind, n, now, got)
					}
				}
			}
		}
	}
}

// P14.3: swept at each time, a key that is pending goes at its deadline, and not ahead of it.
func TestGoesAtItsDeadline(t *testing.T) {
	for _, from := range []life.Life{life.New(), {State: 2, Expires: 3, Versions: 8}, {State: 1, Expires: latest, Versions: 4}} {
		for _, begin := range []int{0, 5, 1 << 32, latest - 1000} {
			for _, n := range []int{1, 2, 7, 256, 999, 1000} {
				l, e := life.Step(from, life.Event{Kind: 3, N: n}, begin)
				if want := (life.Life{State: 3, Deadline: begin + n, Expires: from.Expires, Versions: from.Versions}); e != api.OK || l != want {
					t.Fatalf("%+v in %d at %d: %+v, %d", from, n, begin, l, e)
				}
				for now := begin; now < begin+n; now++ {
					steps(t, l, life.Event{Kind: 7}, now, l)
					uses(t, l, now, api.ErrPending)
				}
				gone := life.Life{State: 4, Expires: from.Expires, Versions: from.Versions}
				for _, now := range []int{begin + n, min(begin+n+1, latest), min(begin+2*n, latest), latest} {
					steps(t, l, life.Event{Kind: 7}, now, gone)
					uses(t, gone, now, api.ErrNone)
				}
				steps(t, l, life.Event{Kind: 7}, begin, l)
			}
		}
	}
}

// P14.3: pending keys with deadlines about the edges, swept about them.
func TestSweptAboutDeadlines(t *testing.T) {
	for _, deadline := range rightTimes() {
		l := of(3, func(l *life.Life) { l.Deadline = deadline })
		for _, now := range append(rightTimes(), max(0, deadline-1), min(latest, deadline+1)) {
			if now < deadline {
				steps(t, l, life.Event{Kind: 7}, now, l)
			} else {
				steps(t, l, life.Event{Kind: 7}, now, in(4))
			}
		}
	}
}

// P14.3: a key is not gone but by a sweep of what is pending, and no event that it takes makes a wrong life of it.
func TestGoesBySweepsAlone(t *testing.T) {
	for _, l := range rightLives() {
		for kind := 1; kind <= 7; kind++ {
			for _, now := range rightTimes() {
				got, e := life.Step(l, life.Event{Kind: kind, N: 1}, now)
				if e == api.OK && !life.Right(got) || got.State == 4 && l.State != 4 && (kind != 7 || l.State != 3 || now < l.Deadline) {
					t.Fatalf("%+v, %d at %d: %+v", l, kind, now, got)
				}
			}
		}
	}
}

// P14.3: all rows of up to five events of a new key, a tick between two: it goes where it was scheduled, not cancelled, and swept at or behind its deadline, and is gone from then on.
func TestRowsOfEvents(t *testing.T) {
	const most = 5
	var row func(l life.Life, deadline, now, left int)
	ends := map[int]int{}
	row = func(l life.Life, deadline, now, left int) {
		if left == 0 {
			ends[l.State]++
			return
		}
		for _, x := range []life.Event{{Kind: 1}, {Kind: 2}, {Kind: 3, N: 1}, {Kind: 3, N: 2}, {Kind: 4}, {Kind: 5}, {Kind: 6, N: 3}, {Kind: 6}, {Kind: 7}} {
			got, e := life.Step(l, x, now)
			due := deadline
			switch {
			case e != api.OK:
				got = l
			case x.Kind == 3:
				due = now + x.N
			case x.Kind == 4:
				due = 0
			}
			goes := x.Kind == 7 && l.State == 3 && now >= deadline
			if (got.State == 4) != (l.State == 4 || goes) || (got.State == 3) != (due > 0 && got.State != 4) || !life.Right(got) {
				t.Fatalf("%+v, %+v at %d, due at %d: %+v, %d", l, x, now, deadline, got, e)
			}
			if used := life.Use(got, now) == api.OK; used != (got.State == 1 && (got.Expires == 0 || now < got.Expires)) {
				t.Fatalf("%+v used at %d: %v", got, now, used)
			}
			row(got, due, now+1, left-1)
		}
	}
	row(life.New(), 0, 0, most)
	for state := 1; state <= 4; state++ {
		if ends[state] < 50 {
			t.Error(ends)
		}
	}
}
