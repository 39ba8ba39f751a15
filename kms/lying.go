package kms

import (
	"strconv"
	"strings"

	"keyloft/api"
	"keyloft/grant"
	"keyloft/store"
	"keyloft/value"
)

// Under which keys of the store what a service has lies.
const (
	atDomain    = "d" // the current one's number
	atTime      = "t"
	atMade      = "n" // how many keys ever were made
	underDomain = "d/"
	underKey    = "k/"
	underAlias  = "a/"
	underGrant  = "g/"
)

const grantDigits = 4 // at least, of a grant's number

// domainAt, keyAt, aliasAt: where one of them lies.
func domainAt(n int) string      { return underDomain + strconv.Itoa(n) }
func keyAt(id string) string     { return underKey + id }
func aliasAt(name string) string { return underAlias + name }

// grantsAt, grantAt: where a key's grants lie, and where one of them does.
func grantsAt(id string) string { return underGrant + id + "/" }
func grantAt(id string, n int) string {
	digits := strconv.Itoa(n)
	return grantsAt(id) + strings.Repeat("0", max(0, grantDigits-len(digits))) + digits
}

// put: the change that puts a value under a key; gone: that takes it away.
func put(at string, v any) store.Change { return store.Change{Key: at, Value: v} }
func gone(at string) store.Change       { return store.Change{Key: at, Gone: true} }

// number: what lies there; 0, if there is none.
func (k *Kms) number(at string) int {
	v, _ := k.Get(at)
	n, _ := value.Int(v)
	return n
}

// text: what lies there; an empty one, if there is none.
func (k *Kms) text(at string) string {
	v, _ := k.Get(at)
	s, _ := value.Text(v)
	return s
}

// has: does anything lie there?
func (k *Kms) has(at string) bool {
	_, ok := k.Get(at)
	return ok
}

// each: what lies under a prefix comes to do, by rising keys, with what its key has behind the prefix.
func (k *Kms) each(prefix string, do func(rest string, v any)) {
	for _, at := range k.Keys(prefix) {
		v, _ := k.Get(at)
		do(strings.TrimPrefix(at, prefix), v)
	}
}

// now: the time.
func (k *Kms) now() int { return k.number(atTime) }

// grants: all of a key's.
func (k *Kms) grants(id string) []grant.Grant {
	var l []grant.Grant
	k.each(grantsAt(id), func(_ string, v any) {
		g, _ := grant.Parse(v)
		l = append(l, g)
	})
	return l
}

// key: the one of an id.
func (k *Kms) key(id string) (key, api.Errno) {
	v, ok := k.Get(keyAt(id))
	if !ok {
		return key{}, api.ErrNone
	}
	return read(id, v), api.OK
}

// find: the key that a name is an alias of, or else its id.
func (k *Kms) find(name string) (key, api.Errno) {
	if at := aliasAt(name); k.has(at) {
		return k.key(k.text(at))
	}
	return k.key(name)
}

// owned: the key of a name, if who asks is its owner.
func (k *Kms) owned(name, who string) (key, api.Errno) {
	x, e := k.find(name)
	if e != api.OK {
		return key{}, e
	}
	if x.owner != who {
		return key{}, api.ErrDenied
	}
	return x, api.OK
}
