package blob_test

import (
	"crypto/aes"
	"crypto/cipher"
	"math"
	"regexp"
	"slices"
	"strings"
	"testing"

	"keyloft/api"
	"keyloft/blob"
)

// The chapter's words told a second time, of the library's GCM.

var nameForm = regexp.MustCompile(`\A[a-z0-9\x{3b1}-\x{3c9}][a-z0-9\x{3b1}-\x{3c9}-]{0,31}\z`)

func headHolds(h blob.Head) bool {
	return nameForm.MatchString(h.Id) && h.Version >= 1 && h.Version <= 8 && len(h.Nonce) == 12
}

func laidOf(h blob.Head) string {
	return "K1" + string([]byte{byte(len(h.Id))}) + h.Id + string([]byte{byte(h.Version)}) + h.Nonce
}

// besideOf: a context's text; false, if it is none.
func besideOf(context []api.Pair) (string, bool) {
	l := slices.Clone(context)
	slices.SortFunc(l, func(p, q api.Pair) int { return strings.Compare(p.Key, q.Key) })
	var out []byte
	for i, p := range l {
		if i >= 8 || p.Key == "" || len(p.Key) > 32 || len(p.Value) > 64 || i > 0 && l[i-1].Key == p.Key {
			return "", false
		}
		out = append(append(out, byte(len(p.Key))), p.Key...)
		out = append(append(out, byte(len(p.Value))), p.Value...)
	}
	return string(out), true
}

func gcmOf(key string) cipher.AEAD {
	block, err := aes.NewCipher([]byte(key))
	if err != nil {
		panic(err)
	}
	sealer, err := cipher.NewGCM(block)
	if err != nil {
		panic(err)
	}
	return sealer
}

// sealedOf: whatever is beside.
func sealedOf(key, nonce, beside, text string) string {
	return string(gcmOf(key).Seal(nil, []byte(nonce), []byte(text), []byte(beside)))
}

func builtOf(key string, h blob.Head, context []api.Pair, text string) (string, api.Errno) {
	beside, ok := besideOf(context)
	if !ok || !headHolds(h) || len(key) != 32 {
		return "", api.ErrForm
	}
	if len(text) > 1024 {
		return "", api.ErrLong
	}
	return laidOf(h) + sealedOf(key, h.Nonce, laidOf(h)+beside, text), api.OK
}

// parsedOf: the head with which a blob begins, looked for among those of all lengths.
func parsedOf(b string) (blob.Head, api.Errno) {
	for n := 1; n <= 64 && 16+n+16 <= len(b); n++ {
		h := blob.Head{Id: b[3 : 3+n], Version: int(b[3+n]), Nonce: b[4+n : 16+n]}
		if headHolds(h) && strings.HasPrefix(b, laidOf(h)) && len(b)-len(laidOf(h)) <= 1040 {
			return h, api.OK
		}
	}
	return blob.Head{}, api.ErrForm
}

func openedOf(key, b string, context []api.Pair) (string, api.Errno) {
	h, e := parsedOf(b)
	beside, ok := besideOf(context)
	if e != api.OK || !ok || len(key) != 32 {
		return "", api.ErrForm
	}
	head := laidOf(h)
	text, err := gcmOf(key).Open(nil, []byte(h.Nonce), []byte(b[len(head):]), []byte(head+beside))
	if err != nil {
		return "", api.ErrCorrupt
	}
	return string(text), api.OK
}

// mixer: bytes without a pattern, the same in each run.
func mixer(seed uint64) func(n int) string {
	return func(n int) string {
		b := make([]byte, n)
		for i := range b {
			seed = seed*6364136223846793005 + 1442695040888963407
			b[i] = byte(seed >> 56)
		}
		return string(b)
	}
}

// below: numbers without a pattern.
func below(draw func(int) string) func(n int) int {
	return func(n int) int {
		b := draw(3)
		return (int(b[0])<<16 | int(b[1])<<8 | int(b[2])) % n
	}
}

func noughts(n int) string { return strings.Repeat("\x00", n) }
func full(n int) string    { return strings.Repeat("\xff", n) }

// counted: the bytes 0, 1, 2, ..
func counted(n int) string {
	b := make([]byte, n)
	for i := range b {
		b[i] = byte(i)
	}
	return string(b)
}

// flip: the text with one bit turned round.
func flip(s string, bit int) string {
	b := []byte(s)
	b[bit/8] ^= 1 << (bit % 8)
	return string(b)
}

// pairs: of keys and values in turn.
func pairs(texts ...string) []api.Pair {
	var l []api.Pair
	for i := 0; i+1 < len(texts); i += 2 {
		l = append(l, api.Pair{Key: texts[i], Value: texts[i+1]})
	}
	return l
}

// largest: so many pairs, as long as may be.
func largest(n int) []api.Pair {
	var l []api.Pair
	for i := range n {
		l = append(l, api.Pair{Key: strings.Repeat(string(rune('a'+i)), 32), Value: strings.Repeat(string(rune('A'+i)), 64)})
	}
	return l
}

func wrongIds() []string {
	return []string{
		"", "-", "-a", "A", "Key", "aB", "a b", "a_b", "a/b", "a.", "a\x00", "\x00", "\xff", "a\xce", "\xb1a", "\xce\xb1\xce",
		"α\u03b0", "ά", "ϊ", "Α", "é", "𝛼", strings.Repeat("a", 33), strings.Repeat("ω", 33), strings.Repeat("a", 64), strings.Repeat("a", 255),
		strings.Repeat("a", 256), strings.Repeat("a", 258), strings.Repeat("ω", 130),
	}
}

// wrongVersions: with such as have a right one's last byte.
func wrongVersions() []int {
	return []int{0, -1, -8, 9, 10, 16, 48, 49, 128, 255, 256, 257, 264, -255, -248, 1<<16 + 1, 1<<32 + 1, 1<<40 + 8, -1<<32 + 1, math.MaxInt, math.MinInt, math.MinInt + 1}
}

func noContexts() map[string][]api.Pair {
	return map[string][]api.Pair{
		"an empty pair":         {{}},
		"an empty key":          pairs("a", "1", "", "2"),
		"a key of 33":           pairs(strings.Repeat("k", 33), ""),
		"a value of 65":         pairs("a", strings.Repeat("v", 65)),
		"a key twice":           pairs("a", "1", "b", "2", "a", "3"),
		"a pair twice":          pairs("a", "1", "a", "1"),
		"nine pairs":            largest(9),
		"eight pairs, and less": append(largest(8), api.Pair{}),
	}
}

func built(t *testing.T, key string, h blob.Head, context []api.Pair, text string) string {
	t.Helper()
	b, e := blob.Build(key, h, context, text)
	if e != api.OK {
		t.Fatalf("Build with %+v, of %d bytes: %d", h, len(text), e)
	}
	return b
}

// refusesToBuild: Build answers the error, and no blob.
func refusesToBuild(t *testing.T, what, key string, h blob.Head, context []api.Pair, text string, want api.Errno) {
	t.Helper()
	if b, e := blob.Build(key, h, context, text); e != want || b != "" {
		t.Errorf("Build, %s, with a text of %d: %d, not %d, with %d bytes", what, len(text), e, want, len(b))
	}
}

// parses: Parse answers the head.
func parses(t *testing.T, what, b string, want blob.Head) {
	t.Helper()
	if h, e := blob.Parse(b); e != api.OK || h != want {
		t.Errorf("Parse, %s: %d, %+v, not %+v", what, e, h, want)
	}
}

// opens: Open answers the text.
func opens(t *testing.T, what, key, b string, context []api.Pair, want string) {
	t.Helper()
	if text, e := blob.Open(key, b, context); e != api.OK || text != want {
		t.Errorf("Open, %s: %d, %q, not %q", what, e, text, want)
	}
}

// refuses: Open answers the error, and no text.
func refuses(t *testing.T, what, key, b string, context []api.Pair, want api.Errno) {
	t.Helper()
	if text, e := blob.Open(key, b, context); e != want || text != "" {
		t.Errorf("Open, %s: %d, not %d, with %d bytes", what, e, want, len(text))
	}
}

// isNone: neither Parse nor Open takes it, whatever they are handed with it.
func isNone(t *testing.T, what, b string) {
	t.Helper()
	if h, e := blob.Parse(b); e != api.ErrForm || h != (blob.Head{}) {
		t.Errorf("Parse, %s: %d, %+v", what, e, h)
	}
	for _, key := range []string{counted(32), noughts(32), ""} {
		refuses(t, what, key, b, nil, api.ErrForm)
		refuses(t, what+", with a context", key, b, pairs("a", "1"), api.ErrForm)
	}
}

// drawing: what is asked for is drawn of a few keys, ids and contexts, and mostly right.
type drawing struct {
	bytes func(int) string
	next  func(int) int
	blobs []string
}

func newDrawing(seed uint64) *drawing {
	bytes := mixer(seed)
	return &drawing{bytes, below(bytes), []string{"", "K1", "K1\x01a\x01" + noughts(28)}}
}

func (d *drawing) key() string {
	return []string{noughts(32), counted(32), counted(33)[1:], counted(31 + 2*d.next(2))}[min(d.next(31)/10, 3)]
}

func (d *drawing) head() blob.Head {
	h := blob.Head{Id: []string{"k1", "k2", "α-2", strings.Repeat("ω", 32)}[d.next(4)], Version: 1 + d.next(8), Nonce: d.bytes(12)}
	switch d.next(30) {
	case 0:
		h.Id = wrongIds()[d.next(len(wrongIds()))]
	case 1:
		h.Version = wrongVersions()[d.next(len(wrongVersions()))]
	case 2:
		h.Nonce = d.bytes(d.next(30))
	}
	return h
}

func (d *drawing) context() []api.Pair {
	l := [][]api.Pair{nil, pairs("a", "1"), pairs("a", "1", "b", "2"), pairs("b", "2", "a", "1"), pairs("a", "1", "a", "1"), largest(8), largest(9)}
	return l[min(d.next(30)/5, len(l)-1)]
}

// blob: mostly one that was built; now and then it is turned, cut, or has more behind it.
func (d *drawing) blob() string {
	b := d.blobs[d.next(len(d.blobs))]
	if b == "" {
		return b
	}
	switch d.next(6) {
	case 0:
		return flip(b, d.next(8*len(b)))
	case 1:
		return b[:d.next(len(b))]
	case 2:
		return b + d.bytes(d.next(1100))
	case 3:
		return flip(b, d.next(8*min(len(b), 20)))
	}
	return b
}

func (d *drawing) text() string {
	if d.next(10) == 0 {
		return d.bytes(1000 + d.next(50))
	}
	return d.bytes(d.next(40))
}

// P12.1, P12.2: whatever is asked for is what the chapter's words tell.
func TestDrawnCallsByTheWords(t *testing.T) {
	d := newDrawing(1)
	times := map[string]map[api.Errno]int{"Build": {}, "Parse": {}, "Open": {}}
	for range 20000 {
		key, h, context, text := d.key(), d.head(), d.context(), d.text()
		b, e := blob.Build(key, h, context, text)
		if want, f := builtOf(key, h, context, text); b != want || e != f {
			t.Fatalf("Build with %+v, %q, of %d bytes: %d, %x, not %d, %x", h, context, len(text), e, b, f, want)
		}
		times["Build"][e]++
		if e == api.OK {
			d.blobs = append(d.blobs, b)
		}
		asked := d.blob()
		if d.next(3) == 0 {
			asked = b
		} else {
			key, context = d.key(), d.context()
		}
		parsed, e := blob.Parse(asked)
		if want, f := parsedOf(asked); parsed != want || e != f {
			t.Fatalf("Parse of %x: %d, %+v, not %d, %+v", asked, e, parsed, f, want)
		}
		times["Parse"][e]++
		opened, e := blob.Open(key, asked, context)
		if want, f := openedOf(key, asked, context); opened != want || e != f {
			t.Fatalf("Open of %x with %q: %d, %q, not %d, %q", asked, context, e, opened, f, want)
		}
		times["Open"][e]++
	}
	for what, l := range map[string][]api.Errno{"Build": {api.OK, api.ErrForm, api.ErrLong}, "Parse": {api.OK, api.ErrForm}, "Open": {api.OK, api.ErrForm, api.ErrCorrupt}} {
		for _, e := range l {
			if times[what][e] < 200 {
				t.Errorf("%s answered %d %d times only", what, e, times[what][e])
			}
		}
	}
}
