package kms

import (
	"strconv"

	"keyloft/api"
	"keyloft/grant"
	"keyloft/label"
	"keyloft/life"
)

// The events of layer 14.
const (
	toEnable = 1 + iota
	toDisable
	toSchedule
	toCancel
	toAddVersion
	toExpire
	toSweep
)

// create: a new key.
func (k *Kms) create(r Req) (string, api.Errno) {
	if !label.Right(r.Who) {
		return "", api.ErrForm
	}
	if len(k.Keys(underKey)) >= api.MaxKeys {
		return "", api.ErrFull
	}
	made := k.number(atMade) + 1
	x, e := k.grown(key{id: "k" + strconv.Itoa(made), owner: r.Who, life: life.New()}, r.Draw)
	if e != api.OK {
		return "", e
	}
	if e := k.store.Commit(put(atMade, made), x.put()); e != api.OK {
		return "", e
	}
	return x.id, api.OK
}

// event: what the owner lets come to a key. A version more has a request of its own, because it needs a draw, and a sweep comes to all keys.
func (k *Kms) event(r Req) (string, api.Errno) {
	switch r.N {
	case toEnable, toDisable, toSchedule, toCancel, toExpire:
	default:
		return "", api.ErrKind
	}
	x, e := k.stepped(r, life.Event{Kind: r.N, N: r.M})
	if e != api.OK {
		return "", e
	}
	return "", k.store.Commit(x.put())
}

// rotate: a version more.
func (k *Kms) rotate(r Req) (string, api.Errno) {
	x, e := k.stepped(r, life.Event{Kind: toAddVersion})
	if e != api.OK {
		return "", e
	}
	x, e = k.grown(x, r.Draw)
	if e != api.OK {
		return "", e
	}
	return "", k.store.Commit(x.put())
}

// stepped: the owner's key behind an event.
func (k *Kms) stepped(r Req, x life.Event) (key, api.Errno) {
	of, e := k.owned(r.Key, r.Who)
	if e != api.OK {
		return key{}, e
	}
	of.life, e = life.Step(of.life, x, k.now())
	return of, e
}

// grown: a key with one version more, made of a draw, under the current domain.
func (k *Kms) grown(x key, draw string) (key, api.Errno) {
	n := k.number(atDomain)
	wrapped, e := k.ring.Backing(n, k.text(domainAt(n)), x.id, len(x.versions)+1, draw)
	return x.with(version{n, wrapped}), e
}

// alias: another name of a key.
func (k *Kms) alias(r Req) (string, api.Errno) {
	if !label.Right(r.Name) {
		return "", api.ErrForm
	}
	x, e := k.owned(r.Key, r.Who)
	if e != api.OK {
		return "", e
	}
	if k.has(aliasAt(r.Name)) || k.has(keyAt(r.Name)) {
		return "", api.ErrExists
	}
	return "", k.store.Commit(put(aliasAt(r.Name), x.id))
}

// unalias: it goes. A name that is an alias is found as such.
func (k *Kms) unalias(r Req) (string, api.Errno) {
	at := aliasAt(r.Name)
	if !k.has(at) {
		return "", api.ErrNone
	}
	if _, e := k.owned(r.Name, r.Who); e != api.OK {
		return "", e
	}
	return "", k.store.Commit(gone(at))
}

// giveGrant: a key has one more.
func (k *Kms) giveGrant(r Req) (string, api.Errno) {
	x, e := k.owned(r.Key, r.Who)
	if e != api.OK {
		return "", e
	}
	l, e := grant.Print(r.Grant)
	if e != api.OK {
		return "", e
	}
	at := grantAt(x.id, r.Grant.Id)
	if k.has(at) {
		return "", api.ErrExists
	}
	if len(k.Keys(grantsAt(x.id))) >= api.MaxGrants {
		return "", api.ErrFull
	}
	return "", k.store.Commit(put(at, l))
}

// takeGrant: a key has one less. Where nobody may retire it an empty name may not either, though it is the same text.
func (k *Kms) takeGrant(r Req) (string, api.Errno) {
	x, e := k.find(r.Key)
	if e != api.OK {
		return "", e
	}
	at := grantAt(x.id, r.N)
	v, ok := k.Get(at)
	if !ok {
		return "", api.ErrNone
	}
	g, _ := grant.Parse(v)
	if r.Who != x.owner && (r.Who != g.Retire || g.Retire == "") {
		return "", api.ErrDenied
	}
	return "", k.store.Commit(gone(at))
}

// rewrap: all versions of a key come under the current domain.
func (k *Kms) rewrap(r Req) (string, api.Errno) {
	x, e := k.owned(r.Key, r.Who)
	if e != api.OK {
		return "", e
	}
	m := k.number(atDomain)
	for i, v := range x.versions {
		wrapped, e := k.ring.Rewrap(v.domain, k.text(domainAt(v.domain)), m, k.text(domainAt(m)), x.id, i+1, v.wrapped)
		if e != api.OK {
			return "", e
		}
		x.versions[i] = version{m, wrapped}
	}
	return "", k.store.Commit(x.put())
}
