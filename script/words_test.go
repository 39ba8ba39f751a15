package script_test

import (
	"cmp"
	"encoding/binary"
	"slices"

	"keyloft/api"
	"keyloft/grant"
	"keyloft/label"
	"keyloft/script"
)

// The chapter's words told a second time: bytes are put together, and taken apart, without a value between.

func numberOf(n int) string {
	return "i" + string(binary.BigEndian.AppendUint64(nil, uint64(n)))
}

func textOf(s string) string {
	return "s" + string(binary.BigEndian.AppendUint16(nil, uint16(len(s)))) + s
}

func yesOf(yes bool) string {
	if yes {
		return "y"
	}
	return "n"
}

// listOf: of its values' bytes.
func listOf(values ...string) string {
	out := "l" + oneByte(len(values))
	for _, v := range values {
		out += v
	}
	return out
}

// oneByte: a number's, as a text.
func oneByte(n int) string { return string([]byte{byte(n)}) }

// contextOf: a context's text.
func contextOf(context []api.Pair) string {
	out := ""
	for _, p := range rising(context) {
		out += oneByte(len(p.Key)) + p.Key + oneByte(len(p.Value)) + p.Value
	}
	return out
}

// rising: a context's pairs by their keys.
func rising(context []api.Pair) []api.Pair {
	return slices.SortedFunc(slices.Values(context), func(p, q api.Pair) int { return cmp.Compare(p.Key, q.Key) })
}

func grantOf(g grant.Grant) string {
	if isZero(g) {
		return listOf()
	}
	return listOf(numberOf(g.Id), textOf(g.Who), textOf(g.Retire), numberOf(g.Ops), textOf(contextOf(g.Need)), yesOf(g.Equal))
}

func isZero(g grant.Grant) bool { return sameGrants(g, grant.Grant{}) }

func opOf(o script.Op) string {
	r := o.Req
	if r.Kind >= 15 {
		return listOf(numberOf(r.Kind), numberOf(o.Cut.At), numberOf(int(o.Cut.Keep)), numberOf(o.Cut.Torn))
	}
	return listOf(numberOf(r.Kind), textOf(r.Who), textOf(r.Key), textOf(r.Name), textOf(r.Text), textOf(r.Draw),
		textOf(contextOf(r.Context)), grantOf(r.Grant), numberOf(r.N), numberOf(r.M))
}

func scriptOf(l ...script.Op) string {
	var ops []string
	for _, o := range l {
		ops = append(ops, opOf(o))
	}
	return listOf(ops...)
}

// isContext: is it one?
func isContext(context []api.Pair) bool {
	seen := map[string]bool{}
	for _, p := range context {
		if seen[p.Key] || p.Key == "" || len(p.Key) > 32 || len(p.Value) > 64 {
			return false
		}
		seen[p.Key] = true
	}
	return len(context) <= 8
}

func isGrant(g grant.Grant) bool {
	return 1 <= g.Id && g.Id <= 2147483647 && label.Right(g.Who) && (g.Retire == "" || label.Right(g.Retire)) &&
		0 <= g.Ops && g.Ops <= 255 && isContext(g.Need)
}

// printOf: what Print answers.
func printOf(l ...script.Op) (string, api.Errno) {
	var e api.Errno
	for _, o := range l {
		r := o.Req
		for _, text := range []string{r.Who, r.Key, r.Name, r.Text, r.Draw} {
			if len(text) > 65535 {
				e = max(e, api.ErrLong)
			}
		}
		bare := r.Who+r.Key+r.Name+r.Text+r.Draw == "" && len(r.Context) == 0 && isZero(r.Grant) && r.N == 0 && r.M == 0
		failure := r.Kind == 15 || r.Kind == 16
		request := r.Kind >= 1 && r.Kind <= 14
		if !failure && !request || failure && !bare || !isContext(r.Context) || !isZero(r.Grant) && !isGrant(r.Grant) ||
			request && (o.Cut.At != 0 || o.Cut.Keep != 0 || o.Cut.Torn != 0) {
			return "", api.ErrForm
		}
	}
	if e != api.OK || len(l) > 255 {
		return "", api.ErrLong
	}
	s := scriptOf(l...)
	if len(s) > 65536 {
		return "", api.ErrLong
	}
	return s, api.OK
}

// scanner: takes a script apart, from the front.
type scanner struct {
	rest string
	bad  bool
}

// take: so many bytes; when there aren't as many left, noughts, enough of them for a number.
func (s *scanner) take(n int) string {
	if n > len(s.rest) {
		s.bad = true
		return string(make([]byte, min(n, 8)))
	}
	piece := s.rest[:n]
	s.rest = s.rest[n:]
	return piece
}

// must: what doesn't hold makes it no script.
func (s *scanner) must(holds bool) { s.bad = s.bad || !holds }

func (s *scanner) number() int {
	s.must(s.take(1) == "i")
	return int(binary.BigEndian.Uint64([]byte(s.take(8))))
}

func (s *scanner) text() string {
	s.must(s.take(1) == "s")
	return s.take(int(binary.BigEndian.Uint16([]byte(s.take(2)))))
}

// list: how many values a list has, which come next.
func (s *scanner) list() int {
	s.must(s.take(1) == "l")
	return int(s.take(1)[0])
}

// context: of its text, whose keys must rise.
func (s *scanner) context() []api.Pair {
	in := scanner{rest: s.text()}
	var context []api.Pair
	for in.rest != "" && !in.bad {
		key := in.take(int(in.take(1)[0]))
		context = append(context, api.Pair{Key: key, Value: in.take(int(in.take(1)[0]))})
	}
	s.must(!in.bad && isContext(context) && slices.EqualFunc(context, rising(context), func(p, q api.Pair) bool { return p == q }))
	return context
}

func (s *scanner) grant() grant.Grant {
	count := s.list()
	if count == 0 {
		return grant.Grant{}
	}
	g := grant.Grant{Id: s.number(), Who: s.text(), Retire: s.text(), Ops: s.number(), Need: s.context()}
	yes := s.take(1)
	g.Equal = yes == "y"
	s.must(count == 6 && (g.Equal || yes == "n") && isGrant(g))
	return g
}

func (s *scanner) op() script.Op {
	var o script.Op
	count := s.list()
	r, c := &o.Req, &o.Cut
	r.Kind = s.number()
	if r.Kind == 15 || r.Kind == 16 {
		s.must(count == 4)
		c.At, c.Keep, c.Torn = s.number(), uint64(s.number()), s.number()
		return o
	}
	s.must(count == 10 && r.Kind >= 1 && r.Kind <= 14)
	r.Who, r.Key, r.Name, r.Text, r.Draw = s.text(), s.text(), s.text(), s.text(), s.text()
	r.Context, r.Grant, r.N, r.M = s.context(), s.grant(), s.number(), s.number()
	return o
}

// readOf: what Read answers.
func readOf(text string) ([]script.Op, api.Errno) {
	s := scanner{rest: text[:min(len(text), 65536)]}
	var l []script.Op
	for range s.list() {
		if s.bad {
			break
		}
		l = append(l, s.op())
	}
	if s.bad || s.rest != "" {
		return nil, api.ErrForm
	}
	return l, api.OK
}

func samePairs(a, b []api.Pair) bool { return slices.Equal(a, b) }

func sameGrants(a, b grant.Grant) bool {
	return a.Id == b.Id && a.Who == b.Who && a.Retire == b.Retire && a.Ops == b.Ops && samePairs(a.Need, b.Need) && a.Equal == b.Equal
}

// sameOps: are they the same, with pairs in the same order?
func sameOps(a, b []script.Op) bool {
	return slices.EqualFunc(a, b, func(o, p script.Op) bool {
		r, q := o.Req, p.Req
		return o.Cut == p.Cut && r.Kind == q.Kind && r.Who == q.Who && r.Key == q.Key && r.Name == q.Name && r.Text == q.Text &&
			r.Draw == q.Draw && samePairs(r.Context, q.Context) && sameGrants(r.Grant, q.Grant) && r.N == q.N && r.M == q.M
	})
}

// sorted: the operations as they are read again: with pairs by rising keys.
func sorted(l []script.Op) []script.Op {
	out := slices.Clone(l)
	for i := range out {
		r := &out[i].Req
		r.Context, r.Grant.Need = rising(r.Context), rising(r.Grant.Need)
	}
	return out
}
