package kms

import "keyloft/api"

// The kinds of requests.
const (
	create = 1 + iota
	encrypt
	decrypt
	data
	event
	rotate
	alias
	unalias
	giveGrant
	takeGrant
	newDomain
	rewrap
	tick
	sweep
)

// doing: what a request does.
type doing func(k *Kms, r Req) (string, api.Errno)

// doings: of all kinds.
func doings() map[int]doing {
	return map[int]doing{
		create:    (*Kms).create,
		encrypt:   (*Kms).encrypt,
		decrypt:   (*Kms).decrypt,
		data:      (*Kms).data,
		event:     (*Kms).event,
		rotate:    (*Kms).rotate,
		alias:     (*Kms).alias,
		unalias:   (*Kms).unalias,
		giveGrant: (*Kms).giveGrant,
		takeGrant: (*Kms).takeGrant,
		newDomain: (*Kms).newDomain,
		rewrap:    (*Kms).rewrap,
		tick:      (*Kms).tick,
		sweep:     (*Kms).sweep,
	}
}
