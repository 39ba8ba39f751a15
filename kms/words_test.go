package kms_test

import (
	"crypto/aes"
	"crypto/cipher"
	"crypto/hkdf"
	"crypto/hmac"
	"crypto/sha256"
	"fmt"
	"maps"
	"slices"
	"strconv"
	"testing"

	"keyloft/api"
	"keyloft/blob"
	"keyloft/grant"
	"keyloft/kms"
	"keyloft/label"
	"keyloft/life"
)

// The chapter's words told a second time: keys stand in a tree of structs, none of them wrapped, and all that is sealed is sealed by the library's own HKDF, HMAC and GCM.

func keyOf(salt, draw, info string) string {
	key, err := hkdf.Key(sha256.New, []byte(draw), []byte(salt), info, 32)
	if err != nil {
		panic(err)
	}
	return string(key)
}

func gcmOf(key string) cipher.AEAD {
	block, err := aes.NewCipher([]byte(key))
	if err != nil {
		panic(err)
	}
	sealer, err := cipher.NewGCM(block)
	if err != nil {
		panic(err)
	}
	return sealer
}

func wrappedOf(under, name, key string) string {
	h := hmac.New(sha256.New, []byte(under))
	h.Write([]byte(name + "\x00" + key))
	nonce := h.Sum(nil)[:12]
	return string(gcmOf(under).Seal(nonce, nonce, []byte(key), []byte(name)))
}

// oneByte: a number's, as a text.
func oneByte(n int) string { return string([]byte{byte(n)}) }

// contextOf: a context's text.
func contextOf(context []api.Pair) string {
	out := ""
	for _, p := range slices.SortedFunc(slices.Values(context), func(p, q api.Pair) int { return slices.Compare([]byte(p.Key), []byte(q.Key)) }) {
		out += oneByte(len(p.Key)) + p.Key + oneByte(len(p.Value)) + p.Value
	}
	return out
}

// headOf: a blob's head.
func headOf(id string, version int, draw string) string {
	digest := sha256.Sum256([]byte(draw))
	return "K1" + oneByte(len(id)) + id + oneByte(version) + string(digest[:12])
}

// blobOf: a text's blob under a backing key.
func blobOf(key, head string, context []api.Pair, text string) string {
	sealed := gcmOf(key).Seal(nil, []byte(head[len(head)-12:]), []byte(text), []byte(head+contextOf(context)))
	return head + string(sealed)
}

// openOf: the text of a blob with this head.
func openOf(key, head, b string, context []api.Pair) (string, api.Errno) {
	text, err := gcmOf(key).Open(nil, []byte(head[len(head)-12:]), []byte(b[len(head):]), []byte(head+contextOf(context)))
	if err != nil {
		return "", api.ErrCorrupt
	}
	return string(text), api.OK
}

// version: of a key, and the number of the domain above it.
type version struct {
	domain int
	key    string
}

// customer: a customer's key.
type customer struct {
	owner    string
	life     life.Life
	versions []version
	grants   map[int]grant.Grant
}

// service: what a service is told.
type service struct {
	root    string
	domains []string // their keys
	now     int
	made    int
	keys    map[string]customer // by their ids
	aliases map[string]string   // the ids that they are of
}

func serviceOf(root, draw string) service {
	s := service{root: root, keys: map[string]customer{}, aliases: map[string]string{}}
	s.addDomain(draw)
	return s
}

// copied: what is done to the copy isn't done to it.
func (s service) copied() service {
	s.domains, s.keys, s.aliases = slices.Clone(s.domains), maps.Clone(s.keys), maps.Clone(s.aliases)
	for id, c := range s.keys {
		c.versions, c.grants = slices.Clone(c.versions), maps.Clone(c.grants)
		s.keys[id] = c
	}
	return s
}

func (s *service) addDomain(draw string) {
	s.domains = append(s.domains, keyOf("domain", draw, "\x00\x00\x00"+oneByte(len(s.domains)+1)))
}

// addVersion: to a key of an id.
func (s *service) addVersion(id string, c customer, draw string) {
	c.versions = append(c.versions, version{len(s.domains), keyOf("backing", draw, id+oneByte(len(c.versions)+1))})
	s.keys[id] = c
}

// lies: the bytes of what lies in the store, by its keys.
func (s service) lies() map[string]string {
	all := map[string]any{"d": len(s.domains), "t": s.now, "n": s.made}
	for i, key := range s.domains {
		all["d/"+strconv.Itoa(i+1)] = wrappedOf(s.root, "d\x00\x00\x00"+oneByte(i+1), key)
	}
	for id, c := range s.keys {
		versions := []any{}
		for i, v := range c.versions {
			versions = append(versions, []any{v.domain, wrappedOf(s.domains[v.domain-1], "b"+id+oneByte(i+1), v.key)})
		}
		all["k/"+id] = []any{c.owner, []any{c.life.State, c.life.Deadline, c.life.Expires, c.life.Versions}, versions}
		for n, g := range c.grants {
			all[fmt.Sprintf("g/%s/%04d", id, n)] = []any{n, g.Who, g.Retire, g.Ops, contextOf(g.Need), g.Equal}
		}
	}
	for name, id := range s.aliases {
		all["a/"+name] = id
	}
	lies := map[string]string{}
	for at, v := range all {
		lies[at] = bytesOf(v)
	}
	return lies
}

// find: the id of a name's key, and the key.
func (s service) find(name string) (string, customer, api.Errno) {
	if id, ok := s.aliases[name]; ok {
		name = id
	}
	c, ok := s.keys[name]
	if !ok {
		return "", customer{}, api.ErrNone
	}
	return name, c, api.OK
}

// owned: likewise, for its owner.
func (s service) owned(name, who string) (string, customer, api.Errno) {
	id, c, e := s.find(name)
	if e == api.OK && c.owner != who {
		e = api.ErrDenied
	}
	return id, c, e
}

func (s service) may(c customer, r kms.Req, op int) api.Errno {
	if !grant.Any(slices.Collect(maps.Values(c.grants)), c.owner, r.Who, op, r.Context) {
		return api.ErrDenied
	}
	return life.Use(c.life, s.now)
}

// asked: what a request answers that only asks.
func (s service) asked(r kms.Req) (string, api.Errno) {
	if r.Kind == 3 {
		return s.decrypted(r)
	}
	id, c, e := s.find(r.Key)
	if e != api.OK {
		return "", e
	}
	if e := s.may(c, r, map[int]int{2: 0, 4: 2}[r.Kind]); e != api.OK {
		return "", e
	}
	out, text := "", r.Text
	if r.Kind == 4 {
		out, text = keyOf("data", r.Draw, ""), keyOf("data", r.Draw, "")
	}
	if len(text) > 1024 {
		return "", api.ErrLong
	}
	last := len(c.versions)
	return out + blobOf(c.versions[last-1].key, headOf(id, last, r.Draw), r.Context, text), api.OK
}

func (s service) decrypted(r kms.Req) (string, api.Errno) {
	h, e := blob.Parse(r.Text)
	if e != api.OK {
		return "", e
	}
	c, ok := s.keys[h.Id]
	if !ok || len(c.versions) < h.Version {
		return "", api.ErrNone
	}
	if e := s.may(c, r, 1); e != api.OK {
		return "", e
	}
	head := "K1" + oneByte(len(h.Id)) + h.Id + oneByte(h.Version) + h.Nonce
	return openOf(c.versions[h.Version-1].key, head, r.Text, r.Context)
}

// does: what a request does, and answers, where there is room on the disk. With an error it may not be used any more.
func (s *service) does(r kms.Req) (string, api.Errno) {
	switch r.Kind {
	case 1:
		return s.creates(r)
	case 2, 3, 4:
		return s.asked(r)
	case 5, 6:
		return "", s.steps(r)
	case 7, 8:
		return "", s.names(r)
	case 9, 10:
		return "", s.grants(r)
	case 11, 12:
		return "", s.wraps(r)
	case 13:
		if r.N < 1 || r.N > 1048576 || s.now+r.N > 1099511627776 {
			return "", api.ErrRange
		}
		s.now += r.N
		return "", api.OK
	case 14:
		s.sweeps()
		return "", api.OK
	}
	return "", api.ErrKind
}

func (s *service) creates(r kms.Req) (string, api.Errno) {
	if !label.Right(r.Who) {
		return "", api.ErrForm
	}
	if len(s.keys) == 32 {
		return "", api.ErrFull
	}
	s.made++
	id := "k" + strconv.Itoa(s.made)
	s.addVersion(id, customer{owner: r.Who, life: life.New(), grants: map[int]grant.Grant{}}, r.Draw)
	return id, api.OK
}

func (s *service) steps(r kms.Req) api.Errno {
	x := life.Event{Kind: 5}
	if r.Kind == 5 {
		if !slices.Contains([]int{1, 2, 3, 4, 6}, r.N) {
			return api.ErrKind
		}
		x = life.Event{Kind: r.N, N: r.M}
	}
	id, c, e := s.owned(r.Key, r.Who)
	if e != api.OK {
		return e
	}
	if c.life, e = life.Step(c.life, x, s.now); e != api.OK {
		return e
	}
	s.keys[id] = c
	if r.Kind == 6 {
		s.addVersion(id, c, r.Draw)
	}
	return api.OK
}

func (s *service) names(r kms.Req) api.Errno {
	of, is := s.aliases[r.Name]
	if r.Kind == 8 {
		if !is {
			return api.ErrNone
		}
		if s.keys[of].owner != r.Who {
			return api.ErrDenied
		}
		delete(s.aliases, r.Name)
		return api.OK
	}
	if !label.Right(r.Name) {
		return api.ErrForm
	}
	id, _, e := s.owned(r.Key, r.Who)
	if e != api.OK {
		return e
	}
	if _, key := s.keys[r.Name]; is || key {
		return api.ErrExists
	}
	s.aliases[r.Name] = id
	return api.OK
}

func (s *service) grants(r kms.Req) api.Errno {
	if r.Kind == 9 {
		_, c, e := s.owned(r.Key, r.Who)
		_, has := c.grants[r.Grant.Id]
		switch {
		case e != api.OK:
			return e
		case !grant.Right(r.Grant):
			return api.ErrForm
		case has:
			return api.ErrExists
		case len(c.grants) == 32:
			return api.ErrFull
		}
		c.grants[r.Grant.Id] = r.Grant
		return api.OK
	}
	_, c, e := s.find(r.Key)
	if e != api.OK {
		return e
	}
	g, has := c.grants[r.N]
	if !has {
		return api.ErrNone
	}
	if r.Who == "" || r.Who != c.owner && r.Who != g.Retire {
		return api.ErrDenied
	}
	delete(c.grants, r.N)
	return api.OK
}

func (s *service) wraps(r kms.Req) api.Errno {
	if r.Kind == 11 {
		if len(s.domains) == 8 {
			return api.ErrFull
		}
		s.addDomain(r.Draw)
		return api.OK
	}
	_, c, e := s.owned(r.Key, r.Who)
	for i := range c.versions {
		if e == api.OK {
			c.versions[i].domain = len(s.domains)
		}
	}
	return e
}

func (s *service) sweeps() {
	for id, c := range s.keys {
		if c.life.State == 3 && c.life.Deadline <= s.now {
			c.life.State, c.life.Deadline, c.versions = 4, 0, nil
			s.keys[id] = c
		}
	}
}

// beside: a service, and one beside it that is told the same by the chapter's words.
type beside struct {
	t *testing.T
	k *kms.Kms
	s service
}

// begun: both, new.
func begun(t *testing.T) *beside {
	t.Helper()
	root, draw := repeated(32, "root"), "the first draw"
	k, e := kms.New(root, draw)
	if k == nil || e != api.OK {
		t.Fatalf("New: %d", e)
	}
	b := &beside{t, k, serviceOf(root, draw)}
	b.same()
	return b
}

// same: in the store lies what the words say, and nothing else.
func (b *beside) same() {
	b.t.Helper()
	if !maps.Equal(lying(b.k), b.s.lies()) {
		b.t.Fatal("it lies otherwise:\n", differing(lying(b.k), b.s.lies()))
	}
}

// does: a request, with this answer and this error by the words, too.
func (b *beside) does(r kms.Req, want api.Errno) string {
	b.t.Helper()
	next := b.s.copied()
	image := b.k.Image()
	answer, e := b.k.Do(r)
	told, f := next.does(r)
	if e != want || e != f || answer != told {
		b.t.Fatalf("%.300v: %d, %.80q, by the words %d, %.80q, and %d is wanted", r, e, answer, f, told, want)
	}
	if e == api.OK {
		b.s = next
	}
	if asks := r.Kind >= 2 && r.Kind <= 4; (e != api.OK || asks) && b.k.Image() != image {
		b.t.Fatalf("%.300v: the disk is changed", r)
	}
	b.same()
	return answer
}

// ok: a request that isn't refused.
func (b *beside) ok(r kms.Req) string {
	b.t.Helper()
	return b.does(r, api.OK)
}
