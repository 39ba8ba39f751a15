package life

import "keyloft/api"

// The kinds of events.
const (
	enable = 1 + iota
	disable
	schedule
	cancel
	addVersion
	expire
	sweep
)

const mostTicks = 1000 // from when a key is scheduled till it goes

// refused: the event's error, where it comes to a right life at a time. What is wrong with the event alone goes ahead of what the life doesn't let happen.
func (x Event) refused(l Life, now int) api.Errno {
	switch {
	case x.Kind < enable || x.Kind > sweep:
		return api.ErrKind
	case !x.inRange(now):
		return api.ErrRange
	case x.comesTo(l.State):
		if x.Kind == addVersion && l.Versions == api.MaxVersions {
			return api.ErrFull
		}
		return api.OK
	case l.State == gone:
		return api.ErrNone
	}
	return api.ErrState
}

// inRange: is the event's number right? It is held against the most ticks ahead of the sum, because that wraps round behind the greatest number. Kinds that have no number take any.
func (x Event) inRange(now int) bool {
	switch x.Kind {
	case schedule:
		return 1 <= x.N && x.N <= mostTicks && isTime(now+x.N)
	case expire:
		return isTime(x.N)
	}
	return true
}

// comesTo: may the event come to a life of this state? A sweep comes to all of them, because it goes through all keys, and leaves alone what isn't due.
func (x Event) comesTo(state int) bool {
	switch x.Kind {
	case enable:
		return state == disabled
	case disable, addVersion:
		return state == enabled
	case schedule, expire:
		return state == enabled || state == disabled
	case cancel:
		return state == pending
	}
	return x.Kind == sweep
}

// behind: the life behind the event, which isn't refused.
func (x Event) behind(l Life, now int) Life {
	switch x.Kind {
	case enable:
		l.State = enabled
	case disable:
		l.State = disabled
	case schedule:
		l.State, l.Deadline = pending, now+x.N
	case cancel:
		l.State, l.Deadline = disabled, 0
	case addVersion:
		l.Versions++
	case expire:
		l.Expires = x.N
	case sweep:
		if l.State == pending && now >= l.Deadline {
			l.State, l.Deadline = gone, 0
		}
	}
	return l
}
