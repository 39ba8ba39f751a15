package script_test

import (
	"strconv"
	"testing"

	"keyloft/api"
	"keyloft/grant"
	"keyloft/kms"
	"keyloft/script"
)

// root: the services' of these tests.
func root() string { return repeated(32, "root") }

// served: a new service, as a script has it.
func served(t *testing.T) *kms.Kms {
	t.Helper()
	k, e := kms.New(root(), "script")
	if k == nil || e != api.OK {
		t.Fatalf("New: %d", e)
	}
	return k
}

// asks: an operation, with this error; it answers what the service did.
func asks(t *testing.T, k *kms.Kms, o script.Op, want api.Errno) string {
	t.Helper()
	s, e := script.Do(k, o)
	if e != want || e != api.OK && s != "" {
		t.Fatalf("%s: %d, %.80q, not %d", short(o), e, s, want)
	}
	return s
}

// ok: a request that isn't refused.
func ok(t *testing.T, k *kms.Kms, r kms.Req) string {
	t.Helper()
	return asks(t, k, script.Op{Req: r}, api.OK)
}

// fails: a request that is refused so.
func fails(t *testing.T, k *kms.Kms, r kms.Req, want api.Errno) {
	t.Helper()
	asks(t, k, script.Op{Req: r}, want)
}

// Requests of each kind.
func creating(who string) kms.Req { return kms.Req{Kind: 1, Who: who, Draw: "draw of " + who} }
func encrypting(who, key, text string, context ...api.Pair) kms.Req {
	return kms.Req{Kind: 2, Who: who, Key: key, Text: text, Draw: "nonce for " + text, Context: context}
}
func decrypting(who, b string, context ...api.Pair) kms.Req {
	return kms.Req{Kind: 3, Who: who, Text: b, Context: context}
}
func making(who, key, draw string, context ...api.Pair) kms.Req {
	return kms.Req{Kind: 4, Who: who, Key: key, Draw: draw, Context: context}
}
func eventing(who, key string, n, m int) kms.Req {
	return kms.Req{Kind: 5, Who: who, Key: key, N: n, M: m}
}
func rotating(who, key, draw string) kms.Req {
	return kms.Req{Kind: 6, Who: who, Key: key, Draw: draw}
}
func aliasing(who, key, name string) kms.Req {
	return kms.Req{Kind: 7, Who: who, Key: key, Name: name}
}
func unaliasing(who, name string) kms.Req { return kms.Req{Kind: 8, Who: who, Name: name} }
func granting(who, key string, g grant.Grant) kms.Req {
	return kms.Req{Kind: 9, Who: who, Key: key, Grant: g}
}
func ungranting(who, key string, n int) kms.Req {
	return kms.Req{Kind: 10, Who: who, Key: key, N: n}
}
func turning(draw string) kms.Req        { return kms.Req{Kind: 11, Draw: draw} }
func rewrapping(who, key string) kms.Req { return kms.Req{Kind: 12, Who: who, Key: key} }
func ticking(n int) kms.Req              { return kms.Req{Kind: 13, N: n} }
func sweeping() kms.Req                  { return kms.Req{Kind: 14} }

// asker: requests without a pattern, of few names, so that they meet.
type asker struct {
	drawer
	blobs []string
}

func (a *asker) context() []api.Pair {
	switch a.draw(6) {
	case 0:
		return pairs("a", "1")
	case 1:
		return pairs("b", "2", "a", "1")
	case 2:
		return pairs("a", "1", "b", "2")
	}
	return nil
}

// blob: one that was made, some of them changed.
func (a *asker) blob() string {
	if len(a.blobs) == 0 {
		return "none"
	}
	s := []byte(a.blobs[a.draw(len(a.blobs))])
	switch a.draw(12) {
	case 0:
		s[a.draw(len(s))] ^= 1 << a.draw(8)
	case 1:
		s = s[:a.draw(len(s))]
	}
	return string(s)
}

// asked: of the kinds, some more often than others.
var asked = []int{1, 2, 2, 2, 2, 3, 3, 3, 3, 3, 3, 4, 4, 5, 5, 5, 5, 6, 6, 7, 7, 8, 9, 9, 10, 10, 11, 12, 12, 13, 13, 14}

func (a *asker) request() kms.Req {
	r := kms.Req{
		Kind: asked[a.draw(len(asked))],
		Who:  a.one("ann", "ann", "ann", "ann", "bob", "cy", "", "Ann"),
		Key:  a.one("k1", "k1", "k1", "k2", "k2", "k3", "k4", "α", "β", "k9", ""),
		Name: a.one("α", "β", "k2", "k6", "-", ""), Draw: a.one("", "x", strconv.Itoa(a.draw(1000))),
		Context: a.context(), N: a.draw(7), M: a.draw(8),
	}
	switch r.Kind {
	case 2:
		r.Text = repeated(a.draw(1200), "text")
	case 3:
		r.Text = a.blob()
	case 9:
		r.Grant = grant.Grant{Id: 1 + a.draw(4), Who: a.one("ann", "bob", "cy"), Retire: a.one("", "cy"), Ops: a.draw(256), Need: a.context(), Equal: a.draw(2) == 0}
		if a.draw(10) == 0 {
			r.Grant = grant.Grant{}
		}
	}
	return r
}

// op: a request, or sometimes a failure of the power.
func (a *asker) op() script.Op {
	switch a.draw(25) {
	case 0:
		return arming(a.draw(30), uint64(a.draw(1<<20))*0x9e3779b97f4a7c15, a.draw(70)-2)
	case 1:
		return crashing(uint64(a.draw(4)), a.draw(65))
	}
	return script.Op{Req: a.request()}
}

// learns: what was made may be asked for from here on.
func (a *asker) learns(kind int, answer string, e api.Errno) {
	if e == api.OK && kind == 2 {
		a.blobs = append(a.blobs, answer)
	}
	if e == api.OK && kind == 4 {
		a.blobs = append(a.blobs, answer[32:])
	}
}
