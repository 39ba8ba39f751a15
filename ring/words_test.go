package ring_test

import (
	"crypto/aes"
	"crypto/cipher"
	"crypto/hkdf"
	"crypto/hmac"
	"crypto/sha256"
	"strings"
	"testing"

	"keyloft/api"
	"keyloft/ring"
)

// The chapter's words told a second time, of the library's HKDF, HMAC and GCM.

func keyOf(salt, draw, info string) string {
	key, err := hkdf.Key(sha256.New, []byte(draw), []byte(salt), info, 32)
	if err != nil {
		panic(err)
	}
	return string(key)
}

func gcmOf(key string) cipher.AEAD {
	block, err := aes.NewCipher([]byte(key))
	if err != nil {
		panic(err)
	}
	sealer, err := cipher.NewGCM(block)
	if err != nil {
		panic(err)
	}
	return sealer
}

func wrappedOf(under, name, key string) string {
	h := hmac.New(sha256.New, []byte(under))
	h.Write([]byte(name + "\x00" + key))
	nonce := h.Sum(nil)[:12]
	return string(gcmOf(under).Seal(nonce, nonce, []byte(key), []byte(name)))
}

func unwrappedOf(under, name, wrapped string) (string, api.Errno) {
	if len(wrapped) != 60 {
		return "", api.ErrForm
	}
	key, err := gcmOf(under).Open(nil, []byte(wrapped[:12]), []byte(wrapped[12:]), []byte(name))
	if err != nil || wrappedOf(under, name, string(key)) != wrapped {
		return "", api.ErrCorrupt
	}
	return string(key), api.OK
}

// place: what all three calls of backing keys are handed.
type place struct {
	n       int
	domain  string
	id      string
	version int
}

// infos: a domain's and a backing key's.
func (p place) infos() (string, string) {
	return "\x00\x00\x00" + string([]byte{byte(p.n)}), p.id + string([]byte{byte(p.version)})
}

func (p place) made(root, draw string) (string, api.Errno) {
	if p.n < 1 || p.n > 8 {
		return "", api.ErrRange
	}
	info, _ := p.infos()
	return wrappedOf(root, "d"+info, keyOf("domain", draw, info)), api.OK
}

func (p place) above(root string) (string, api.Errno) {
	if p.n < 1 || p.n > 8 || p.version < 1 || p.version > 8 {
		return "", api.ErrRange
	}
	if len(p.id) > 32 {
		return "", api.ErrLong
	}
	ofDomain, _ := p.infos()
	return unwrappedOf(root, "d"+ofDomain, p.domain)
}

func (p place) backing(root, draw string) (string, api.Errno) {
	above, e := p.above(root)
	if e != api.OK {
		return "", e
	}
	_, info := p.infos()
	return wrappedOf(above, "b"+info, keyOf("backing", draw, info)), api.OK
}

func (p place) key(root, wrapped string) (string, api.Errno) {
	above, e := p.above(root)
	if e != api.OK {
		return "", e
	}
	_, info := p.infos()
	return unwrappedOf(above, "b"+info, wrapped)
}

func (p place) rewrapped(root string, m int, other, wrapped string) (string, api.Errno) {
	key, e := p.key(root, wrapped)
	if e != api.OK {
		return "", e
	}
	if m < 1 || m > 8 {
		return "", api.ErrRange
	}
	above, e := place{m, other, p.id, p.version}.above(root)
	if e != api.OK {
		return "", e
	}
	_, info := p.infos()
	return wrappedOf(above, "b"+info, key), api.OK
}

// P11.1: domains' keys are what the chapter's words tell.
func TestDomainsByTheWords(t *testing.T) {
	draw := mixer(11)
	for length := range 130 {
		root, d := draw(32), draw(length)
		r := ringOf(t, root)
		for n := 1; n <= 8; n++ {
			want, _ := place{n: n}.made(root, d)
			if w := domainOf(t, r, n, d); w != want {
				t.Errorf("domain %d of %d bytes: %x", n, length, w)
			}
		}
	}
}

// drawing: calls are drawn of a few rings, places and draws, and mostly handed what others of them answered.
type drawing struct {
	next     func(below int) int
	home     int // which ring is asked
	rings    []*ring.Ring
	roots    []string
	domains  [2][4][]string // by the ring and the number, 1 to 3
	backings []string
}

func newDrawing(t *testing.T, seed uint64) *drawing {
	bytes := mixer(seed)
	d := &drawing{backings: []string{"", noughts(60)}}
	d.next = func(below int) int {
		b := bytes(2)
		return (int(b[0])<<8 | int(b[1])) % below
	}
	for i := range 2 {
		root := counted(33)[i : i+32]
		d.rings, d.roots = append(d.rings, ringOf(t, root)), append(d.roots, root)
	}
	return d
}

func (d *drawing) draw() string { return []string{"", "draw", counted(32)}[d.next(3)] }

func (d *drawing) number() int {
	if d.next(20) == 0 {
		l := wrongNumbers()
		return l[d.next(len(l))]
	}
	return 1 + d.next(3)
}

// domain: mostly one of the number; now and then another number's, or another ring's, or what is no domain.
func (d *drawing) domain(n int) string {
	l := []string{"", d.backings[d.next(len(d.backings))]}
	if d.next(4) == 0 {
		l = append(l, d.domains[d.next(2)][1+d.next(3)]...)
	} else if n >= 1 && n <= 3 && d.domains[d.home][n] != nil {
		l = d.domains[d.home][n]
	}
	return l[d.next(len(l))]
}

func (d *drawing) place() place {
	n := d.number()
	id := []string{"", "k1", "k1\x01", "k2", strings.Repeat("i", 32), full(32)}[d.next(6)]
	if d.next(20) == 0 {
		id = strings.Repeat("i", 33)
	}
	return place{n, d.domain(n), id, d.number()}
}

// wrapped: mostly the place's.
func (d *drawing) wrapped(p place) string {
	if d.next(3) == 0 {
		return d.backings[d.next(len(d.backings))]
	}
	w, _ := p.backing(d.roots[d.home], d.draw())
	return w
}

// answer: of a call.
type answer struct {
	text string
	e    api.Errno
}

func answerOf(text string, e api.Errno) answer { return answer{text, e} }

// asked: what a call answers, and what the chapter's words tell of it.
func (d *drawing) asked(what string) (got, want answer) {
	r, root, p, draw := d.rings[d.home], d.roots[d.home], d.place(), d.draw()
	switch what {
	case "Domain":
		got, want = answerOf(r.Domain(p.n, draw)), answerOf(p.made(root, draw))
		if got.e == api.OK && p.n <= 3 {
			d.domains[d.home][p.n] = append(d.domains[d.home][p.n], got.text)
		}
	case "Backing":
		got, want = answerOf(r.Backing(p.n, p.domain, p.id, p.version, draw)), answerOf(p.backing(root, draw))
		d.backings = append(d.backings, got.text)
	case "Key":
		w := d.wrapped(p)
		got, want = answerOf(r.Key(p.n, p.domain, p.id, p.version, w)), answerOf(p.key(root, w))
	case "Rewrap":
		w, m := d.wrapped(p), d.number()
		other := d.domain(m)
		got, want = answerOf(r.Rewrap(p.n, p.domain, m, other, p.id, p.version, w)), answerOf(p.rewrapped(root, m, other, w))
		d.backings = append(d.backings, got.text)
	}
	return got, want
}

// P11.1, P11.2, P11.3: whatever is asked for, in whatever order, is what the chapter's words tell.
func TestDrawnCallsByTheWords(t *testing.T) {
	d := newDrawing(t, 12)
	calls := []string{"Domain", "Backing", "Key", "Rewrap"}
	times := map[string]map[api.Errno]int{}
	for _, what := range calls {
		times[what] = map[api.Errno]int{}
	}
	for range 12000 {
		d.home = d.next(2)
		what := calls[d.next(4)]
		got, want := d.asked(what)
		if got != want {
			t.Fatalf("%s: %d, %x, not %d, %x", what, got.e, got.text, want.e, want.text)
		}
		times[what][got.e]++
	}
	for _, what := range calls[1:] {
		for _, e := range []api.Errno{api.OK, api.ErrRange, api.ErrLong, api.ErrForm, api.ErrCorrupt} {
			if times[what][e] < 10 {
				t.Errorf("%s answered %d %d times only", what, e, times[what][e])
			}
		}
	}
}
