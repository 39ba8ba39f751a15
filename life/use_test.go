package life_test

import (
	"testing"

	"keyloft/api"
	"keyloft/life"
)

// P14.1: each state's answer, the same at all times while nothing expires.
func TestUse(t *testing.T) {
	for _, now := range rightTimes() {
		uses(t, life.Life{State: 1, Versions: 8}, now, api.OK)
		uses(t, life.Life{State: 2, Versions: 1}, now, api.ErrState)
		uses(t, life.Life{State: 3, Versions: 1}, now, api.ErrPending)
		uses(t, life.Life{State: 3, Deadline: 7, Versions: 1}, now, api.ErrPending)
		uses(t, life.Life{State: 3, Deadline: latest, Versions: 1}, now, api.ErrPending)
		uses(t, life.Life{State: 4, Versions: 1}, now, api.ErrNone)
	}
}

// P14.1: ahead of Expires a key may be used, from then on not; the state goes ahead of it.
func TestExpired(t *testing.T) {
	for _, at := range rightTimes()[1:] {
		for _, now := range []int{0, 1, at - 2, at - 1, at, at + 1, at + 2, latest} {
			if now < 0 || now > latest {
				continue
			}
			want := api.OK
			if now >= at {
				want = api.ErrExpired
			}
			for versions := 1; versions <= 8; versions++ {
				uses(t, life.Life{State: 1, Expires: at, Versions: versions}, now, want)
				uses(t, life.Life{State: 2, Expires: at, Versions: versions}, now, api.ErrState)
				uses(t, life.Life{State: 3, Deadline: now, Expires: at, Versions: versions}, now, api.ErrPending)
				uses(t, life.Life{State: 4, Expires: at, Versions: versions}, now, api.ErrNone)
			}
		}
	}
}

// P14.1: at what is no time nothing is told, of whatever state.
func TestUsedAtNoTime(t *testing.T) {
	for _, now := range wrongTimes() {
		for state := 1; state <= 4; state++ {
			uses(t, in(state), now, api.ErrForm)
			uses(t, life.Life{State: state, Versions: 1}, now, api.ErrForm)
		}
	}
}

// P14.1: all lives about the edges, at all times about them, by the words.
func TestAllUses(t *testing.T) {
	for _, l := range append(rightLives(), wrongLives()...) {
		for _, now := range append(rightTimes(), wrongTimes()...) {
			if e := life.Use(l, now); e != useOf(l, now) {
				t.Fatalf("%+v used at %d: %d, not %d", l, now, e, useOf(l, now))
			}
		}
	}
}
