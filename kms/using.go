package kms

import (
	"keyloft/api"
	"keyloft/blob"
	"keyloft/grant"
	"keyloft/life"
	"keyloft/ring"
	"keyloft/sha"
)

// The operations of grants.
const (
	toEncrypt = iota
	toDecrypt
	toMakeData
)

// encrypt: the request's text, with the key of that name.
func (k *Kms) encrypt(r Req) (string, api.Errno) {
	x, e := k.usable(r, toEncrypt)
	if e != api.OK {
		return "", e
	}
	return k.sealed(x, r, r.Text)
}

// decrypt: a blob, with the key and the version that its head tells.
func (k *Kms) decrypt(r Req) (string, api.Errno) {
	h, e := blob.Parse(r.Text)
	if e != api.OK {
		return "", e
	}
	x, e := k.key(h.Id)
	if e != api.OK {
		return "", e
	}
	if h.Version > len(x.versions) {
		return "", api.ErrNone
	}
	if e := k.mayDo(x, r, toDecrypt); e != api.OK {
		return "", e
	}
	backing, e := k.backing(x, h.Version)
	if e != api.OK {
		return "", e
	}
	return blob.Open(backing, r.Text, r.Context)
}

// data: a data key, and the same encrypted.
func (k *Kms) data(r Req) (string, api.Errno) {
	x, e := k.usable(r, toMakeData)
	if e != api.OK {
		return "", e
	}
	made := ring.Data(r.Draw)
	b, e := k.sealed(x, r, made)
	if e != api.OK {
		return "", e
	}
	return made + b, api.OK
}

// usable: the key of the request's name, if who asks may do the operation with it.
func (k *Kms) usable(r Req, op int) (key, api.Errno) {
	x, e := k.find(r.Key)
	if e != api.OK {
		return key{}, e
	}
	return x, k.mayDo(x, r, op)
}

// mayDo: why who asks may not do the operation with a key, with the request's context; OK, if it may be.
func (k *Kms) mayDo(x key, r Req, op int) api.Errno {
	if !grant.Any(k.grants(x.id), x.owner, r.Who, op, r.Context) {
		return api.ErrDenied
	}
	return life.Use(x.life, k.now())
}

// sealed: a blob of a text, under the last version of a key.
func (k *Kms) sealed(x key, r Req, text string) (string, api.Errno) {
	last := len(x.versions)
	backing, e := k.backing(x, last)
	if e != api.OK {
		return "", e
	}
	h := blob.Head{Id: x.id, Version: last, Nonce: sha.Of(r.Draw)[:api.NonceLen]}
	return blob.Build(backing, h, r.Context, text)
}

// backing: the backing key of a version that there is.
func (k *Kms) backing(x key, n int) (string, api.Errno) {
	v := x.versions[n-1]
	return k.ring.Key(v.domain, k.text(domainAt(v.domain)), x.id, n, v.wrapped)
}
