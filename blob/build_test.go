package blob_test

import (
	"crypto/sha256"
	"encoding/hex"
	"slices"
	"strconv"
	"strings"
	"testing"

	"keyloft/api"
	"keyloft/blob"
)

func told(s string) string { return hex.EncodeToString([]byte(s)) }

// P12.1, P12.2: known answers, made by other programs of GCM.
func TestKnownBlobs(t *testing.T) {
	for _, x := range []struct {
		key     string
		head    blob.Head
		context []api.Pair
		text    string
		want    string
	}{
		{noughts(32), blob.Head{Id: "a", Version: 1, Nonce: noughts(12)}, nil, "", "4b310161010000000000000000000000009ff8a2eecfafe19c28b0ee5e9d76510b"},
		{counted(32), blob.Head{Id: "k1", Version: 1, Nonce: counted(12)}, nil, "a text",
			"4b31026b3101000102030405060708090a0b2622a27ebd9199be0a49e962139db9e5ef27cbfc0167"},
		{counted(32), blob.Head{Id: "k1", Version: 1, Nonce: counted(12)}, pairs("b", "2", "a", "1"), "a text",
			"4b31026b3101000102030405060708090a0b2622a27ebd91eb59e23f3a0754e4bb825363b518b12d"},
		{counted(32), blob.Head{Id: "k1", Version: 2, Nonce: counted(12)}, pairs("a", "1", "b", "2"), "a text",
			"4b31026b3102000102030405060708090a0b2622a27ebd9118e0c97a0651bb8d6b1e8ed28b0e2681"},
		{full(32), blob.Head{Id: "key-1", Version: 8, Nonce: full(12)}, pairs("\x00", ""), noughts(16),
			"4b31056b65792d3108ffffffffffffffffffffffffbd3bbe851890d89414f668c5b464c8eafd91c0900cff82e67441da52c45a7603"},
		{strings.Repeat("k", 32), blob.Head{Id: "α2", Version: 5, Nonce: "nonce of a k"}, pairs("λ", "\xff\x00", "Z", ""), counted(32),
			"4b3103ceb132056e6f6e6365206f662061206ba17278677942668359117047fbb99bfe4b31c15378220c57d113d3356ccd95faac1cbbbdff8bc6d6f6417761beecf356"},
	} {
		b := built(t, x.key, x.head, x.context, x.text)
		if told(b) != x.want {
			t.Errorf("%+v, %q: %s, not %s", x.head, x.context, told(b), x.want)
		}
		parses(t, "known", b, x.head)
		opens(t, "known", x.key, b, x.context, x.text)
	}
}

// P12.1: a known answer, told by its digest, of the longest id, context and text.
func TestLargestBlob(t *testing.T) {
	h := blob.Head{Id: strings.Repeat("ω", 32), Version: 8, Nonce: noughts(12)}
	text := strings.Repeat("x", 1024)
	b := built(t, counted(32), h, largest(8), text)
	digest := sha256.Sum256([]byte(b))
	if want := "4a93833351c0fbd97df46dd329aa59e11f239041f7f11f04de08f08e14079394"; len(b) != 1120 || told(string(digest[:])) != want {
		t.Errorf("%d bytes, %x", len(b), digest)
	}
	parses(t, "the largest", b, h)
	opens(t, "the largest", counted(32), b, largest(8), text)
}

// builds: what Build answers is what the chapter's words tell, and is parsed and opened.
func builds(t *testing.T, key string, h blob.Head, context []api.Pair, text string) {
	t.Helper()
	b := built(t, key, h, context, text)
	if want, e := builtOf(key, h, context, text); b != want || e != api.OK {
		t.Errorf("Build with %+v and %d pairs, of %d bytes: %x, not %x", h, len(context), len(text), b, want)
	}
	parses(t, "built", b, h)
	opens(t, "built", key, b, context, text)
}

// P12.1: ids of 1 to 32 runes, however many bytes they are, and all versions.
func TestHeads(t *testing.T) {
	draw := mixer(11)
	for _, piece := range []string{"a", "z", "0", "9", "α", "ω", "aω", "α0-", "k-"} {
		runes := []rune(strings.Repeat(piece, 32))
		for n := 1; n <= 32; n++ {
			builds(t, draw(32), blob.Head{Id: string(runes[:n]), Version: 1 + n%8, Nonce: draw(12)}, pairs("a", "1"), "text")
		}
	}
	for version := 1; version <= 8; version++ {
		for _, nonce := range []string{noughts(12), full(12), draw(12), strings.Repeat("α", 6)} {
			builds(t, draw(32), blob.Head{Id: "key-1", Version: version, Nonce: nonce}, nil, draw(20))
		}
	}
}

// P12.1: texts of all lengths, to 1024.
func TestTexts(t *testing.T) {
	draw := mixer(12)
	key := draw(32)
	for n := range 1025 {
		if n > 130 && n < 960 && n%16 > 1 {
			continue
		}
		builds(t, key, blob.Head{Id: "k1", Version: 3, Nonce: draw(12)}, pairs("a", "1"), draw(n))
	}
	for _, text := range []string{noughts(1024), full(1024), strings.Repeat("α", 512)} {
		builds(t, key, blob.Head{Id: "k1", Version: 3, Nonce: draw(12)}, nil, text)
	}
}

// P12.1: contexts of no pair to 8, empty lists and none alike.
func TestContexts(t *testing.T) {
	draw := mixer(13)
	key, h := draw(32), blob.Head{Id: "k1", Version: 1, Nonce: draw(12)}
	for n := range 9 {
		builds(t, key, h, largest(n), "text")
	}
	for _, context := range [][]api.Pair{{}, pairs("a", ""), pairs("\x00", "\x00"), pairs("a", "", "aa", "", "b", "x"), pairs(draw(32), draw(64), draw(32), draw(64))} {
		builds(t, key, h, context, "text")
	}
	if built(t, key, h, nil, "text") != built(t, key, h, []api.Pair{}, "text") {
		t.Error("an empty list is another context than none")
	}
}

// P12.1: what is wrong in a head, in a key or in a context: ErrForm, also where the text is too long, too.
func TestWrongForms(t *testing.T) {
	draw := mixer(14)
	key, context := draw(32), pairs("a", "1")
	h := blob.Head{Id: "k1", Version: 1, Nonce: draw(12)}
	for _, n := range []int{0, 1, 1024, 1025, 70000} {
		text := draw(n)
		for _, id := range wrongIds() {
			refusesToBuild(t, "the id "+strconv.Quote(id), key, blob.Head{Id: id, Version: 1, Nonce: h.Nonce}, context, text, api.ErrForm)
		}
		for _, version := range wrongVersions() {
			refusesToBuild(t, "the version "+strconv.Itoa(version), key, blob.Head{Id: "k1", Version: version, Nonce: h.Nonce}, context, text, api.ErrForm)
		}
		for long := range 40 {
			if long != 12 {
				refusesToBuild(t, "a nonce of "+strconv.Itoa(long), key, blob.Head{Id: "k1", Version: 1, Nonce: draw(long)}, context, text, api.ErrForm)
			}
			if long != 32 {
				refusesToBuild(t, "a key of "+strconv.Itoa(long), draw(long), h, context, text, api.ErrForm)
			}
		}
		for what, none := range noContexts() {
			refusesToBuild(t, what, key, h, none, text, api.ErrForm)
		}
		refusesToBuild(t, "a key of 64", draw(64), h, context, text, api.ErrForm)
		refusesToBuild(t, "a key of 32 runes", strings.Repeat("α", 32), h, context, text, api.ErrForm)
		refusesToBuild(t, "a nonce of 12 runes", key, blob.Head{Id: "k1", Version: 1, Nonce: strings.Repeat("α", 12)}, context, text, api.ErrForm)
		refusesToBuild(t, "no head", key, blob.Head{}, context, text, api.ErrForm)
		refusesToBuild(t, "nothing", "", blob.Head{}, nil, text, api.ErrForm)
	}
}

// P12.1: texts of more than 1024 bytes, however few runes they are.
func TestLongTexts(t *testing.T) {
	draw := mixer(15)
	key, h := draw(32), blob.Head{Id: "k1", Version: 1, Nonce: draw(12)}
	for _, n := range []int{1025, 1026, 1040, 1041, 1280, 2048, 65536, 65537, 1 << 20} {
		for _, context := range [][]api.Pair{nil, pairs("a", "1"), largest(8)} {
			refusesToBuild(t, "too long", key, h, context, draw(n), api.ErrLong)
		}
	}
	refusesToBuild(t, "513 runes", key, h, nil, strings.Repeat("α", 513), api.ErrLong)
	builds(t, key, h, nil, draw(1024))
}

// P12.1: what Build answers hangs on its arguments alone, and changes none, the spare room of its context neither.
func TestBuiltAgain(t *testing.T) {
	draw := mixer(16)
	key, h := draw(32), blob.Head{Id: "k1", Version: 1, Nonce: draw(12)}
	room := pairs("c", "3", "a", "1", "b", "2", "a", "1", "", "x")
	before := slices.Clone(room)
	b := built(t, key, h, room[:3], "text")
	for range 3 {
		built(t, draw(32), blob.Head{Id: "k2", Version: 2, Nonce: draw(12)}, pairs("x", "y"), draw(50))
		refusesToBuild(t, "a pair twice", key, h, room, "text", api.ErrForm)
		if built(t, key, h, room[:3], "text") != b {
			t.Error("built again it is something else")
		}
		opens(t, "again", key, b, room[:3], "text")
		refuses(t, "a pair twice", key, b, room, api.ErrForm)
		refuses(t, "two pairs", key, b, room[:2], api.ErrCorrupt)
		if !slices.Equal(room, before) {
			t.Fatalf("%q, not %q", room, before)
		}
	}
}
