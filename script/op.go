package script

import (
	"keyloft/api"
	"keyloft/grant"
	"keyloft/kms"
	"keyloft/label"
)

// The kinds of operations: those from 1 to the last request's are requests.
const (
	lastRequest = 14
	arm         = 15
	crash       = 16
)

func isRequest(kind int) bool { return 1 <= kind && kind <= lastRequest }
func isFailure(kind int) bool { return kind == arm || kind == crash }

// right: is it an operation that can be told?
func right(o Op) bool {
	if isFailure(o.Req.Kind) {
		return bare(o.Req)
	}
	return isRequest(o.Req.Kind) && o.Cut == api.Cut{} && isContext(o.Req.Context) &&
		(none(o.Req.Grant) || grant.Right(o.Req.Grant))
}

// bare: does a request tell nothing but its Kind?
func bare(r kms.Req) bool {
	return r.Who == "" && r.Key == "" && r.Name == "" && r.Text == "" && r.Draw == "" &&
		len(r.Context) == 0 && none(r.Grant) && r.N == 0 && r.M == 0
}

// none: is it the zero grant?
func none(g grant.Grant) bool {
	return g.Id == 0 && g.Who == "" && g.Retire == "" && g.Ops == 0 && len(g.Need) == 0 && !g.Equal
}

func isContext(l []api.Pair) bool {
	_, e := label.Text(l)
	return e == api.OK
}
