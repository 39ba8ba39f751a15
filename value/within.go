package value

import "keyloft/api"

// come: from a value through places, one within the other.
func come(v any, at []int) (any, api.Errno) {
	for _, place := range at {
		l, ok := v.([]any)
		if !ok {
			return nil, api.ErrType
		}
		if place < 0 || place >= len(l) {
			return nil, api.ErrNone
		}
		v = l[place]
	}
	return v, api.OK
}

// found: what is come to, if it is of the type.
func found[T any](v any, at []int) (T, api.Errno) {
	var none T
	v, e := come(v, at)
	if e != api.OK {
		return none, e
	}
	if x, ok := v.(T); ok {
		return x, api.OK
	}
	return none, api.ErrType
}

// sure: a value of whose type one is sure. It panics as the assertion does, if it is of another one.
func sure[T any](v any) T { return v.(T) }

// copied: a list, and all lists in it, as new memory: of those in it, too, none is shared.
func copied(l []any) []any {
	out := make([]any, 0, len(l))
	for _, v := range l {
		if inner, ok := v.([]any); ok {
			v = copied(inner)
		}
		out = append(out, v)
	}
	return out
}
