package store

import (
	"slices"

	"keyloft/api"
	"keyloft/value"
)

// atOnce: how many keys' values a transaction puts when the journal is made anew.
const atOnce = 16

// changing: what changes do to values.
type changing func(values map[string]any)

// printed: a transaction's text.
func printed(l []Change) (string, api.Errno) {
	all := make([]any, 0, len(l))
	for _, c := range l {
		all = append(all, c.list())
	}
	return value.Print(all)
}

// list: a change as a value.
func (c Change) list() []any {
	if c.Gone {
		return []any{c.Key}
	}
	return []any{c.Key, c.Value}
}

// read: what a transaction's text does; false, if it is none's.
func read(text string) (changing, bool) {
	v, _ := value.Parse(text)
	l, ok := v.([]any)
	if !ok {
		return nil, false
	}
	all := make([]changing, 0, len(l))
	for _, v := range l {
		change, ok := readOne(v)
		if !ok {
			return nil, false
		}
		all = append(all, change)
	}
	return func(values map[string]any) {
		for _, change := range all {
			change(values)
		}
	}, true
}

// readOne: what a change does, told by its list; false, if it is none's.
func readOne(v any) (changing, bool) {
	l, ok := v.([]any)
	if !ok || len(l) < 1 || len(l) > 2 {
		return nil, false
	}
	key, ok := l[0].(string)
	if !ok {
		return nil, false
	}
	if len(l) == 1 {
		return func(values map[string]any) { delete(values, key) }, true
	}
	return func(values map[string]any) { values[key] = l[1] }, true
}

// transactions: the texts that make these values, at least one.
func transactions(values map[string]any) []string {
	keys := rising(values, func(string) bool { return true })
	if len(keys) == 0 {
		return []string{putting(values, nil)}
	}
	var texts []string
	for some := range slices.Chunk(keys, atOnce) {
		texts = append(texts, putting(values, some))
	}
	return texts
}

// putting: the text that puts the values of these keys, at most 16. Print refuses none of them: each was printed before, as deep as here.
func putting(values map[string]any, keys []string) string {
	var l []Change
	for _, key := range keys {
		l = append(l, Change{Key: key, Value: values[key]})
	}
	text, _ := printed(l)
	return text
}
