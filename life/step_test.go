package life_test

import (
	"math"
	"testing"

	"keyloft/api"
	"keyloft/life"
)

// P14.1: the chapter's example.
func TestScheduled(t *testing.T) {
	steps(t, life.New(), life.Event{Kind: 3, N: 7}, 5, life.Life{State: 3, Deadline: 12, Versions: 1})
}

// P14.1: where each event leads to, from each state it comes to; what it doesn't speak of stays.
func TestLeads(t *testing.T) {
	for _, x := range []struct {
		kind, n  int
		from, to life.Life
	}{
		{1, 0, life.Life{2, 0, 100, 3}, life.Life{1, 0, 100, 3}},
		{2, 0, life.Life{1, 0, 100, 3}, life.Life{2, 0, 100, 3}},
		{3, 9, life.Life{1, 0, 100, 3}, life.Life{3, 49, 100, 3}},
		{3, 9, life.Life{2, 0, 100, 3}, life.Life{3, 49, 100, 3}},
		{4, 0, life.Life{3, 50, 100, 3}, life.Life{2, 0, 100, 3}},
		{4, 0, life.Life{3, 0, 0, 3}, life.Life{2, 0, 0, 3}},
		{5, 0, life.Life{1, 0, 100, 3}, life.Life{1, 0, 100, 4}},
		{6, 9, life.Life{1, 0, 100, 3}, life.Life{1, 0, 9, 3}},
		{6, 9, life.Life{2, 0, 100, 3}, life.Life{2, 0, 9, 3}},
		{6, 0, life.Life{1, 0, 100, 3}, life.Life{1, 0, 0, 3}},
		{6, 0, life.Life{2, 0, 100, 3}, life.Life{2, 0, 0, 3}},
		{7, 0, life.Life{1, 0, 100, 3}, life.Life{1, 0, 100, 3}},
		{7, 0, life.Life{2, 0, 100, 3}, life.Life{2, 0, 100, 3}},
		{7, 0, life.Life{3, 41, 100, 3}, life.Life{3, 41, 100, 3}},
		{7, 0, life.Life{3, 40, 100, 3}, life.Life{4, 0, 100, 3}},
		{7, 0, life.Life{3, 39, 100, 3}, life.Life{4, 0, 100, 3}},
		{7, 0, life.Life{4, 0, 100, 3}, life.Life{4, 0, 100, 3}},
	} {
		steps(t, x.from, life.Event{Kind: x.kind, N: x.n}, 40, x.to)
	}
}

// P14.1: the states that each event doesn't come to.
func TestLeadsNot(t *testing.T) {
	for kind, errors := range map[int][5]api.Errno{
		1: {1: api.ErrState, 3: api.ErrState, 4: api.ErrNone},
		2: {2: api.ErrState, 3: api.ErrState, 4: api.ErrNone},
		3: {3: api.ErrState, 4: api.ErrNone},
		4: {1: api.ErrState, 2: api.ErrState, 4: api.ErrNone},
		5: {2: api.ErrState, 3: api.ErrState, 4: api.ErrNone},
		6: {3: api.ErrState, 4: api.ErrNone},
		7: {},
	} {
		for state := 1; state <= 4; state++ {
			for _, now := range []int{0, 1, 49, 50, 51, 100, 101, latest - 1000} {
				if errors[state] != api.OK {
					stepsNot(t, in(state), life.Event{Kind: kind, N: 1}, now, errors[state])
				} else if _, e := life.Step(in(state), life.Event{Kind: kind, N: 1}, now); e != api.OK {
					t.Errorf("%d in the state %d at %d: %d", kind, state, now, e)
				}
			}
		}
	}
}

// P14.1: an expired key takes events as any other one.
func TestStepsExpired(t *testing.T) {
	l := life.Life{State: 1, Expires: 1, Versions: 1}
	steps(t, l, life.Event{Kind: 5}, 9, life.Life{State: 1, Expires: 1, Versions: 2})
	steps(t, l, life.Event{Kind: 2}, 9, life.Life{State: 2, Expires: 1, Versions: 1})
	steps(t, l, life.Event{Kind: 3, N: 1}, 9, life.Life{State: 3, Deadline: 10, Expires: 1, Versions: 1})
	steps(t, l, life.Event{Kind: 6, N: 2}, 9, life.Life{State: 1, Expires: 2, Versions: 1})
	steps(t, l, life.Event{Kind: 7}, 9, l)
}

// P14.1: 1 to 1000 ticks, and the deadline at most 2^40.
func TestTicks(t *testing.T) {
	for _, state := range []int{1, 2} {
		for _, n := range []int{1, 2, 7, 255, 256, 257, 998, 999, 1000} {
			for _, now := range []int{0, 1, 5, 1000, 1 << 32, latest - 1001, latest - 1000, latest - n - 1, latest - n} {
				steps(t, in(state), life.Event{Kind: 3, N: n}, now, life.Life{State: 3, Deadline: now + n, Expires: 100, Versions: 3})
			}
			for _, now := range []int{latest - n + 1, latest} {
				stepsNot(t, in(state), life.Event{Kind: 3, N: n}, now, api.ErrRange)
			}
		}
		for _, n := range append(wrongTimes(), 0, 1001, 1002, 1<<32+1, latest-1, latest) {
			for _, now := range rightTimes() {
				stepsNot(t, in(state), life.Event{Kind: 3, N: n}, now, api.ErrRange)
			}
		}
	}
}

// P14.1: any time a key may be told to expire at, one that is over too; what is none is refused.
func TestExpires(t *testing.T) {
	for _, state := range []int{1, 2} {
		for _, now := range rightTimes() {
			for _, n := range rightTimes() {
				steps(t, in(state), life.Event{Kind: 6, N: n}, now, life.Life{State: state, Expires: n, Versions: 3})
			}
			for _, n := range wrongTimes() {
				stepsNot(t, in(state), life.Event{Kind: 6, N: n}, now, api.ErrRange)
			}
		}
	}
}

// P14.1: versions come one by one, up to 8; only of one more the 8 are too many.
func TestVersions(t *testing.T) {
	l := life.New()
	for n := 2; n <= 8; n++ {
		steps(t, l, life.Event{Kind: 5}, n, life.Life{State: 1, Versions: n})
		l.Versions = n
	}
	stepsNot(t, l, life.Event{Kind: 5}, 9, api.ErrFull)
	steps(t, l, life.Event{Kind: 2}, 9, life.Life{State: 2, Versions: 8})
	steps(t, l, life.Event{Kind: 3, N: 1}, 9, life.Life{State: 3, Deadline: 10, Versions: 8})
	steps(t, l, life.Event{Kind: 6, N: 1}, 9, life.Life{State: 1, Expires: 1, Versions: 8})
	steps(t, l, life.Event{Kind: 7}, 9, l)
	steps(t, life.Life{State: 2, Versions: 8}, life.Event{Kind: 1}, 9, l)
	steps(t, life.Life{State: 3, Versions: 8}, life.Event{Kind: 4}, 9, life.Life{State: 2, Versions: 8})
}

// P14.1: of another Kind ErrKind, whatever the life and the number are.
func TestKinds(t *testing.T) {
	for _, kind := range wrongKinds() {
		for state := 1; state <= 4; state++ {
			for _, n := range anyNumbers() {
				for _, now := range []int{0, 50, latest} {
					stepsNot(t, in(state), life.Event{Kind: kind, N: n}, now, api.ErrKind)
				}
			}
		}
	}
}

// P14.1: an event that needs no number isn't refused for any.
func TestNumbersThatPlayNoPart(t *testing.T) {
	for _, kind := range []int{1, 2, 4, 5, 7} {
		for _, n := range anyNumbers() {
			for state := 1; state <= 4; state++ {
				want, e := stepOf(in(state), life.Event{Kind: kind}, 60)
				if got, f := life.Step(in(state), life.Event{Kind: kind, N: n}, 60); got != want || f != e {
					t.Errorf("%d with %d in the state %d: %+v, %d, not %+v, %d", kind, n, state, got, f, want, e)
				}
			}
		}
	}
}

// P14.1: which error goes ahead, where several apply.
func TestErrorsAhead(t *testing.T) {
	full := life.Life{State: 2, Versions: 8}
	for _, x := range []struct {
		l       life.Life
		kind, n int
		now     int
		want    api.Errno
	}{
		{life.Life{}, 8, 0, 0, api.ErrForm},
		{life.Life{}, 3, 0, 0, api.ErrForm},
		{life.Life{State: 4, Versions: 9}, 1, 0, 0, api.ErrForm},
		{in(1), 8, 0, -1, api.ErrForm},
		{in(1), 3, 0, latest + 1, api.ErrForm},
		{in(1), 3, 1, latest + 1, api.ErrForm},
		{in(4), 2, 0, -1, api.ErrForm},
		{in(4), 7, 0, -1, api.ErrForm},
		{in(4), 8, 0, 0, api.ErrKind},
		{in(3), 0, -1, 0, api.ErrKind},
		{full, -1, 0, 0, api.ErrKind},
		{in(4), 3, 0, 0, api.ErrRange},
		{in(3), 3, 1001, 0, api.ErrRange},
		{in(4), 3, 1, latest, api.ErrRange},
		{in(3), 3, 2, latest - 1, api.ErrRange},
		{in(4), 6, -1, 0, api.ErrRange},
		{in(3), 6, latest + 1, 0, api.ErrRange},
		{full, 5, 0, 0, api.ErrState},
		{life.Life{State: 3, Versions: 8}, 5, 0, 0, api.ErrState},
		{life.Life{State: 4, Versions: 8}, 5, 0, 0, api.ErrNone},
		{life.Life{State: 1, Versions: 8}, 5, -1, 0, api.ErrFull},
	} {
		stepsNot(t, x.l, life.Event{Kind: x.kind, N: x.n}, x.now, x.want)
	}
}

// P14.1: nothing comes at what is no time, nor to what is no life.
func TestStepsOfNothing(t *testing.T) {
	for kind := -1; kind <= 9; kind++ {
		for _, n := range []int{-1, 0, 1, 1000, 1001, latest + 1, math.MaxInt} {
			for _, now := range wrongTimes() {
				for state := 1; state <= 4; state++ {
					stepsNot(t, in(state), life.Event{Kind: kind, N: n}, now, api.ErrForm)
				}
			}
			for _, l := range wrongLives() {
				stepsNot(t, l, life.Event{Kind: kind, N: n}, 7, api.ErrForm)
			}
		}
	}
}

// P14.1: all lives, events and times about the edges, by the words.
func TestAllSteps(t *testing.T) {
	lives := append(rightLives(), wrongLives()...)
	draw := mixer(1)
	numbers := append(anyNumbers(), 999)
	times := map[api.Errno]int{}
	for _, l := range lives {
		for range 200 {
			x := life.Event{Kind: draw(10) - 1, N: numbers[draw(len(numbers))]}
			now := rightTimes()[draw(len(rightTimes()))]
			switch draw(8) {
			case 0:
				now = numbers[draw(len(numbers))]
			case 1:
				now = max(0, l.Deadline-1+draw(3))
			}
			want, e := stepOf(l, x, now)
			got, f := life.Step(l, x, now)
			if got != want || f != e {
				t.Fatalf("%+v, %+v at %d: %+v, %d, not %+v, %d", l, x, now, got, f, want, e)
			}
			if f == api.OK && !life.Right(got) {
				t.Fatalf("%+v, %+v at %d: %+v isn't right", l, x, now, got)
			}
			times[f]++
		}
	}
	for _, e := range []api.Errno{api.OK, api.ErrForm, api.ErrKind, api.ErrRange, api.ErrState, api.ErrNone, api.ErrFull} {
		if times[e] < 100 {
			t.Error(times)
		}
	}
}
