package kms

import (
	"keyloft/api"
	"keyloft/life"
	"keyloft/store"
)

const mostTicks = 1 << 20 // at once

// newDomain: the next one is current.
func (k *Kms) newDomain(r Req) (string, api.Errno) {
	n := k.number(atDomain)
	if n >= api.MaxDomains {
		return "", api.ErrFull
	}
	next, e := k.turningTo(n+1, r.Draw)
	if e != api.OK {
		return "", e
	}
	return "", k.store.Commit(next...)
}

// turningTo: the changes that make a domain, which is current then.
func (k *Kms) turningTo(n int, draw string) ([]store.Change, api.Errno) {
	wrapped, e := k.ring.Domain(n, draw)
	return []store.Change{put(atDomain, n), put(domainAt(n), wrapped)}, e
}

// tick: the time goes on. The ticks are looked at ahead of the sum, which wraps round behind the greatest number.
func (k *Kms) tick(r Req) (string, api.Errno) {
	now := k.now()
	if r.N < 1 || r.N > mostTicks || now+r.N > api.MaxTime {
		return "", api.ErrRange
	}
	return "", k.store.Commit(put(atTime, now+r.N))
}

// sweep: what is due goes, and no text of the journal has it any more. A sweep changes the life of what goes alone.
func (k *Kms) sweep(Req) (string, api.Errno) {
	var going []store.Change
	now := k.now()
	k.each(underKey, func(id string, v any) {
		x := read(id, v)
		behind, _ := life.Step(x.life, life.Event{Kind: toSweep}, now)
		if behind != x.life {
			x.life, x.versions = behind, nil
			going = append(going, x.put())
		}
	})
	if e := k.store.Commit(going...); e != api.OK {
		return "", e
	}
	return "", k.store.Compact()
}
