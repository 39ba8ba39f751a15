package ring

import (
	"keyloft/api"
	"keyloft/mac"
	"keyloft/wrap"
)

// kind: of keys that stand under others: the salt that they are derived with, and what makes their names. What tells a key from the others of its kind is its info, of which both are made.
type kind struct {
	salt string
	name func(info string) string
}

func domains() kind  { return kind{"domain", namer("d")} }
func backings() kind { return kind{"backing", namer("b")} }

// namer: makes a kind's names. Its mark stands ahead, so that no key of another kind has such a name.
func namer(mark string) func(info string) string {
	return func(info string) string { return mark + info }
}

// made: a key of a draw, wrapped under another one.
func (k kind) made(under, info, draw string) (string, api.Errno) {
	return k.wrapped(under, info, derived(k.salt, draw, info))
}

// wrapped: a key under another one.
func (k kind) wrapped(under, info, key string) (string, api.Errno) {
	return wrap.Wrap(under, k.name(info), key)
}

// unwrapped: and back.
func (k kind) unwrapped(under, info, wrapped string) (string, api.Errno) {
	return wrap.Unwrap(under, k.name(info), wrapped)
}

// derived: a key of a draw. No key is longer than what may be derived, so that it can't be refused.
func derived(salt, draw, info string) string {
	key, _ := mac.Derive(salt, draw, info, api.KeyLen)
	return key
}

// ofDomain: the info of a domain's key, its number as 4 bytes, the highest first.
func ofDomain(n int) string {
	return string([]byte{byte(n >> 24), byte(n >> 16), byte(n >> 8), byte(n)})
}

// ofVersion: the info of a backing key. The version is its last byte, so that no two ids and versions have the same one.
func ofVersion(id string, version int) string {
	return id + string([]byte{byte(version)})
}
