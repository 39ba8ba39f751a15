package life_test

import (
	"math"
	"slices"
	"strconv"
	"testing"

	"keyloft/api"
	"keyloft/life"
)

// The chapter's words told a second time: where events lead to stands in a table, and numbers are held against written-out ones.

const latest = 1099511627776 // 2^40

// leads: by its Kind, and the State ahead of it, the State behind an event; 0, where it doesn't come. (A sweep leads to 4 from 3 at the deadline alone.)
var leads = [8][5]int{
	1: {2: 1},
	2: {1: 2},
	3: {1: 3, 2: 3},
	4: {3: 2},
	5: {1: 1},
	6: {1: 1, 2: 2},
	7: {1: 1, 2: 2, 3: 3, 4: 4},
}

func timeOf(t int) bool { return t > -1 && t < latest+1 }

func rightOf(l life.Life) bool {
	deadline := l.Deadline == 0
	if l.State == 3 {
		deadline = timeOf(l.Deadline)
	}
	return slices.Contains([]int{1, 2, 3, 4}, l.State) && deadline && timeOf(l.Expires) && slices.Contains([]int{1, 2, 3, 4, 5, 6, 7, 8}, l.Versions)
}

func useOf(l life.Life, now int) api.Errno {
	if !rightOf(l) || !timeOf(now) {
		return api.ErrForm
	}
	over := api.OK
	if l.Expires > 0 && l.Expires <= now {
		over = api.ErrExpired
	}
	return []api.Errno{1: over, 2: api.ErrState, 3: api.ErrPending, 4: api.ErrNone}[l.State]
}

func stepOf(l life.Life, x life.Event, now int) (life.Life, api.Errno) {
	var e api.Errno
	switch {
	case !rightOf(l) || !timeOf(now):
		e = api.ErrForm
	case x.Kind < 1 || x.Kind > 7:
		e = api.ErrKind
	case x.Kind == 3 && (x.N < 1 || x.N > 1000 || latest-now < x.N), x.Kind == 6 && !timeOf(x.N):
		e = api.ErrRange
	case leads[x.Kind][l.State] == 0 && l.State == 4:
		e = api.ErrNone
	case leads[x.Kind][l.State] == 0:
		e = api.ErrState
	case x.Kind == 5 && l.Versions == 8:
		e = api.ErrFull
	}
	if e != api.OK {
		return life.Life{}, e
	}
	due := l.State == 3 && l.Deadline <= now
	l.State = leads[x.Kind][l.State]
	switch {
	case x.Kind == 3:
		l.Deadline = now + x.N
	case x.Kind == 4:
		l.Deadline = 0
	case x.Kind == 5:
		l.Versions++
	case x.Kind == 6:
		l.Expires = x.N
	case x.Kind == 7 && due:
		l.State, l.Deadline = 4, 0
	}
	return l, api.OK
}

// mixer: numbers without a pattern, the same in each run.
func mixer(seed uint64) func(below int) int {
	return func(below int) int {
		seed = seed*6364136223846793005 + 1442695040888963407
		return int(seed >> 33 % uint64(below))
	}
}

func rightTimes() []int {
	return []int{0, 1, 2, 7, 255, 256, 1000, 1001, 1 << 31, 1<<32 + 1, latest - 1001, latest - 1000, latest - 999, latest - 2, latest - 1, latest}
}

// wrongTimes: with such as have a right one's last bits.
func wrongTimes() []int {
	return []int{-1, -2, -7, -1000, -1 << 31, -latest, -latest - 1, latest + 1, latest + 2, latest + 7, latest + 1000, 2 * latest, 1 << 41, 1<<42 + 7, 1 << 62, 1<<62 + 1, math.MaxInt - 1, math.MaxInt, math.MinInt, math.MinInt + 1, math.MinInt + 7}
}

func wrongStates() []int {
	return []int{0, -1, -2, -3, -4, 5, 6, 7, 8, 255, 257, 1<<32 + 1, 1<<32 + 3, math.MaxInt, math.MinInt, math.MinInt + 1, math.MinInt + 3}
}

func wrongVersions() []int {
	return []int{0, -1, -8, 9, 10, 16, 255, 257, 1<<32 + 1, 1<<32 + 8, math.MaxInt, math.MinInt, math.MinInt + 1}
}

func wrongKinds() []int {
	return []int{0, -1, -3, -7, 8, 9, 10, 15, 16, 257, 259, 1<<32 + 1, 1<<32 + 7, math.MaxInt, math.MinInt, math.MinInt + 3}
}

// anyNumbers: right and wrong ones of all sorts.
func anyNumbers() []int {
	return slices.Concat(rightTimes(), wrongTimes(), wrongStates(), wrongVersions())
}

// in: an ordinary life in a state.
func in(state int) life.Life {
	l := life.Life{State: state, Expires: 100, Versions: 3}
	if state == 3 {
		l.Deadline = 50
	}
	return l
}

// of: an ordinary life in a state, changed.
func of(state int, change func(l *life.Life)) life.Life {
	l := in(state)
	change(&l)
	return l
}

// wrongLives: each wrong in one field alone.
func wrongLives() []life.Life {
	all := []life.Life{{}}
	add := func(state int, change func(l *life.Life)) { all = append(all, of(state, change)) }
	for _, n := range wrongStates() {
		add(1, func(l *life.Life) { l.State = n })
		add(3, func(l *life.Life) { l.State, l.Deadline = n, 0 })
	}
	for state := 1; state <= 4; state++ {
		for _, n := range wrongVersions() {
			add(state, func(l *life.Life) { l.Versions = n })
		}
		for _, n := range wrongTimes() {
			add(state, func(l *life.Life) { l.Deadline = n })
			add(state, func(l *life.Life) { l.Expires = n })
		}
		for _, n := range rightTimes() {
			if state != 3 && n != 0 {
				add(state, func(l *life.Life) { l.Deadline = n })
			}
		}
	}
	return all
}

// rightLives: of all states, with all versions, times about the edges.
func rightLives() []life.Life {
	var all []life.Life
	for state := 1; state <= 4; state++ {
		for versions := 1; versions <= 8; versions++ {
			for _, expires := range rightTimes() {
				all = append(all, life.Life{State: state, Expires: expires, Versions: versions})
				for _, deadline := range rightTimes() {
					if state == 3 && deadline != 0 {
						all = append(all, life.Life{State: 3, Deadline: deadline, Expires: expires, Versions: versions})
					}
				}
			}
		}
	}
	return all
}

// steps: Step answers this life, and no error.
func steps(t *testing.T, l life.Life, x life.Event, now int, want life.Life) {
	t.Helper()
	if got, e := life.Step(l, x, now); e != api.OK || got != want {
		t.Errorf("%+v, %+v at %d: %+v, %d, not %+v", l, x, now, got, e, want)
	}
}

// stepsNot: Step answers this error, and no life.
func stepsNot(t *testing.T, l life.Life, x life.Event, now int, want api.Errno) {
	t.Helper()
	if got, e := life.Step(l, x, now); e != want || got != (life.Life{}) {
		t.Errorf("%+v, %+v at %d: %+v, %d, not %d", l, x, now, got, e, want)
	}
}

// uses: Use answers this.
func uses(t *testing.T, l life.Life, now int, want api.Errno) {
	t.Helper()
	if e := life.Use(l, now); e != want {
		t.Errorf("%+v used at %s: %d, not %d", l, strconv.Itoa(now), e, want)
	}
}
