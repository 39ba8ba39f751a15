package kms

import (
	"keyloft/life"
	"keyloft/store"
	"keyloft/value"
)

// key: as it lies in the store.
type key struct {
	id, owner string
	life      life.Life
	versions  []version // the first one's number is 1; none, if the key is gone
}

// version: of a key, the backing key, wrapped under the domain of that number.
type version struct {
	domain  int
	wrapped string
}

// Where a key's fields stand in its list.
const (
	atOwner = iota
	atLife
	atVersions
)

// Where a version's fields stand in its list.
const (
	atItsDomain = iota
	atWrapped
)

// read: the key of an id, of its list. All that lies there is what put tells.
func read(id string, v any) key {
	x := key{id: id}
	x.owner, _ = value.Text(v, atOwner)
	lives, _ := value.List(v, atLife)
	x.life, _ = life.Parse(lives)
	versions, _ := value.List(v, atVersions)
	for _, v := range versions {
		domain, _ := value.Int(v, atItsDomain)
		wrapped, _ := value.Text(v, atWrapped)
		x.versions = append(x.versions, version{domain, wrapped})
	}
	return x
}

// put: the change that puts a key's list.
func (x key) put() store.Change {
	lives, _ := life.Print(x.life)
	versions := make([]any, 0, len(x.versions))
	for _, v := range x.versions {
		versions = append(versions, []any{atItsDomain: v.domain, atWrapped: v.wrapped})
	}
	return put(keyAt(x.id), []any{atOwner: x.owner, atLife: lives, atVersions: versions})
}

// with: one version more, the last one. The list has no spare room then that another one could come to.
func (x key) with(v version) key {
	n := len(x.versions)
	x.versions = append(x.versions[:n:n], v)
	return x
}
