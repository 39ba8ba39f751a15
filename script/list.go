package script

import (
	"keyloft/api"
	"keyloft/grant"
	"keyloft/label"
)

// listed: right operations' value.
func listed(l []Op) []any {
	all := make([]any, 0, len(l))
	for _, o := range l {
		if isRequest(o.Req.Kind) {
			all = append(all, listedRequest(o))
		} else {
			all = append(all, []any{o.Req.Kind, o.Cut.At, int(o.Cut.Keep), o.Cut.Torn})
		}
	}
	return all
}

// listedRequest: grant.Print tells an empty list of the zero grant, though it refuses it.
func listedRequest(o Op) []any {
	r := o.Req
	context, _ := label.Text(r.Context)
	allowing, _ := grant.Print(r.Grant)
	return []any{r.Kind, r.Who, r.Key, r.Name, r.Text, r.Draw, context, allowing, r.N, r.M}
}

// read: the operations of which something is the value; false, if there are none.
func read(v any) ([]Op, bool) {
	values, ok := v.([]any)
	if !ok {
		return nil, false
	}
	l := make([]Op, len(values))
	for i, v := range values {
		if !readOp(&l[i], v) {
			return nil, false
		}
	}
	return l, true
}

// readOp: an operation's value.
func readOp(to *Op, v any) bool {
	fields, ok := v.([]any)
	if !ok || len(fields) == 0 {
		return false
	}
	kind, _ := fields[0].(int)
	takes := takers(to, kind)
	if len(fields) != len(takes) {
		return false
	}
	for i, take := range takes {
		if !take(fields[i]) {
			return false
		}
	}
	return true
}

// taker: takes a value into a field; false, if it is none of the field's.
type taker func(v any) bool

// takers: of an operation's fields, as they stand in its value; there are none, if there is no such kind.
func takers(to *Op, kind int) []taker {
	r, c := &to.Req, &to.Cut
	switch {
	case isRequest(kind):
		return []taker{
			plain(&r.Kind), plain(&r.Who), plain(&r.Key), plain(&r.Name), plain(&r.Text), plain(&r.Draw),
			ofContext(&r.Context), ofGrant(&r.Grant), plain(&r.N), plain(&r.M),
		}
	case isFailure(kind):
		return []taker{plain(&r.Kind), plain(&c.At), ofBits(&c.Keep), plain(&c.Torn)}
	}
	return nil
}

// plain: of a field that is a value itself.
func plain[T int | string](to *T) taker {
	return func(v any) (ok bool) {
		*to, ok = v.(T)
		return ok
	}
}

// ofBits: of a number that stands for the same 64 bits.
func ofBits(to *uint64) taker {
	return func(v any) bool {
		n, ok := v.(int)
		*to = uint64(n)
		return ok
	}
}

// ofContext: of a context's text.
func ofContext(to *[]api.Pair) taker {
	return func(v any) bool {
		text, ok := v.(string)
		if !ok {
			return false
		}
		context, e := label.Parse(text)
		*to = context
		return e == api.OK
	}
}

// ofGrant: of a grant's list, or of the empty one.
func ofGrant(to *grant.Grant) taker {
	return func(v any) bool {
		if l, ok := v.([]any); ok && len(l) == 0 {
			return true
		}
		g, e := grant.Parse(v)
		*to = g
		return e == api.OK
	}
}
