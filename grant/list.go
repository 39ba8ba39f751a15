package grant

import (
	"strings"

	"keyloft/api"
	"keyloft/label"
)

// Where a grant's fields stand in its list.
const (
	atId = iota
	atWho
	atRetire
	atOps
	atNeed
	atEqual
	fields // how many there are
)

// telling: a value, and whether it is of the type: one of another type tells nothing, which isn't the same as a 0, an empty text or a no.
type telling[T comparable] struct {
	value T
	is    bool
}

// told: what each of a list's values tells, as one of the type.
func told[T comparable](l [fields]any) [fields]telling[T] {
	var all [fields]telling[T]
	for i, v := range l {
		if x, ok := v.(T); ok {
			all[i] = telling[T]{x, true}
		}
	}
	return all
}

// listed: a right grant's list. Its texts are copies, so that no answer shares memory with the grant.
func listed(g Grant) [fields]any {
	need, _ := label.Text(g.Need)
	return [fields]any{
		atId:     g.Id,
		atWho:    strings.Clone(g.Who),
		atRetire: strings.Clone(g.Retire),
		atOps:    g.Ops,
		atNeed:   need,
		atEqual:  g.Equal,
	}
}

// read: the grant whose list a value is; false, if there is none. What was read is listed again, because that has each value in the type that it must have: s has just these, if it tells the same of all three types.
func read(v any) (Grant, bool) {
	s, ok := v.([]any)
	if !ok || len(s) != fields {
		return Grant{}, false
	}
	l := [fields]any(s)
	numbers, texts, answers := told[int](l), told[string](l), told[bool](l)
	need, e := label.Parse(texts[atNeed].value)
	g := Grant{
		Id:     numbers[atId].value,
		Who:    strings.Clone(texts[atWho].value),
		Retire: strings.Clone(texts[atRetire].value),
		Ops:    numbers[atOps].value,
		Need:   need,
		Equal:  answers[atEqual].value,
	}
	if e != api.OK || !Right(g) {
		return Grant{}, false
	}
	again := listed(g)
	return g, told[int](again) == numbers && told[string](again) == texts && told[bool](again) == answers
}
