package life_test

import (
	"testing"

	"keyloft/api"
	"keyloft/life"
)

// isLife: Right says so, and each call takes it.
func isLife(t *testing.T, l life.Life) {
	t.Helper()
	_, printed := life.Print(l)
	_, swept := life.Step(l, life.Event{Kind: 7}, 0)
	if !life.Right(l) || printed != api.OK || swept != api.OK || life.Use(l, 0) == api.ErrForm {
		t.Errorf("%+v: %v, printed %d, swept %d, used %d", l, life.Right(l), printed, swept, life.Use(l, 0))
	}
}

// isNone: no call takes it for a life.
func isNone(t *testing.T, l life.Life) {
	t.Helper()
	if life.Right(l) {
		t.Errorf("%+v: right", l)
	}
	if list, e := life.Print(l); e != api.ErrForm || len(list) != 0 {
		t.Errorf("%+v: printed %d, %v", l, e, list)
	}
	for _, now := range []int{0, 7, latest, -1, latest + 1} {
		uses(t, l, now, api.ErrForm)
		for kind := range 9 {
			stepsNot(t, l, life.Event{Kind: kind, N: 1}, now, api.ErrForm)
		}
	}
}

// P14.1: a new life is enabled, of one version, and never expires.
func TestNew(t *testing.T) {
	if l := life.New(); l != (life.Life{State: 1, Versions: 1}) {
		t.Errorf("%+v", l)
	}
	isLife(t, life.New())
	for _, now := range rightTimes() {
		uses(t, life.New(), now, api.OK)
	}
}

// P14.1: ordinary lives, and such as are wrong in one field alone.
func TestRight(t *testing.T) {
	for state := 1; state <= 4; state++ {
		isLife(t, in(state))
		isLife(t, life.Life{State: state, Versions: 1})
		isLife(t, life.Life{State: state, Versions: 8, Expires: latest})
	}
	isLife(t, life.Life{State: 3, Deadline: latest, Expires: 1, Versions: 8})
	isNone(t, life.Life{})
	isNone(t, life.Life{State: 1})
	isNone(t, life.Life{Versions: 1})
	isNone(t, life.Life{State: 5, Versions: 1})
	isNone(t, life.Life{State: 1, Versions: 9})
	isNone(t, life.Life{State: 3, Deadline: latest + 1, Versions: 1})
	isNone(t, life.Life{State: 1, Expires: latest + 1, Versions: 1})
	isNone(t, life.Life{State: 1, Expires: -1, Versions: 1})
}

// P14.1: what has a deadline is pending, and nothing else is.
func TestDeadlines(t *testing.T) {
	for _, n := range rightTimes() {
		isLife(t, of(3, func(l *life.Life) { l.Deadline = n }))
		for _, state := range []int{1, 2, 4} {
			l := of(state, func(l *life.Life) { l.Deadline = n })
			if n == 0 {
				isLife(t, l)
			} else {
				isNone(t, l)
			}
		}
	}
}

// P14.1: all lives about the edges, right and wrong.
func TestAllRight(t *testing.T) {
	for _, l := range rightLives() {
		if !life.Right(l) || !rightOf(l) {
			t.Errorf("%+v isn't right", l)
		}
	}
	for _, l := range wrongLives() {
		isNone(t, l)
	}
	for _, state := range anyNumbers() {
		for _, n := range anyNumbers() {
			for _, m := range anyNumbers() {
				for _, l := range []life.Life{{state, n, m, 8}, {state, n, 7, m}, {state, 0, n, m}, {3, state, n, m}} {
					if life.Right(l) != rightOf(l) {
						t.Fatalf("%+v: %v", l, life.Right(l))
					}
				}
			}
		}
	}
}
