package wrap_test

import (
	"encoding/hex"
	"strconv"
	"strings"
	"testing"

	"keyloft/api"
	"keyloft/gcm"
	"keyloft/mac"
	"keyloft/wrap"
)

func told(s string) string { return hex.EncodeToString([]byte(s)) }

// mixer: bytes without a pattern, the same in each run.
func mixer(seed uint64) func(n int) string {
	return func(n int) string {
		b := make([]byte, n)
		for i := range b {
			seed = seed*6364136223846793005 + 1442695040888963407
			b[i] = byte(seed >> 56)
		}
		return string(b)
	}
}

func noughts(n int) string { return strings.Repeat("\x00", n) }

// counted: the bytes 0, 1, 2, ..
func counted(n int) string {
	b := make([]byte, n)
	for i := range b {
		b[i] = byte(i)
	}
	return string(b)
}

func wrapped(t *testing.T, under, name, key string) string {
	t.Helper()
	w, e := wrap.Wrap(under, name, key)
	if e != api.OK {
		t.Fatalf("Wrap with %q: %d", name, e)
	}
	return w
}

// unwraps: Unwrap answers the key.
func unwraps(t *testing.T, under, name, wrapped, key string) {
	t.Helper()
	if k, e := wrap.Unwrap(under, name, wrapped); e != api.OK || k != key {
		t.Fatalf("Unwrap with %q: %d, %x, not %x", name, e, k, key)
	}
}

// refuses: Unwrap answers the error, and no key.
func refuses(t *testing.T, what, under, name, wrapped string, want api.Errno) {
	t.Helper()
	if k, e := wrap.Unwrap(under, name, wrapped); e != want || k != "" {
		t.Errorf("Unwrap, %s: %d, not %d, with %d bytes", what, e, want, len(k))
	}
}

// refusesToWrap: Wrap answers the error, and nothing wrapped.
func refusesToWrap(t *testing.T, what, under, name, key string, want api.Errno) {
	t.Helper()
	if w, e := wrap.Wrap(under, name, key); e != want || w != "" {
		t.Errorf("Wrap, %s: %d, not %d, with %d bytes", what, e, want, len(w))
	}
}

// P5.1: known answers, made by other programs of HMAC and GCM.
func TestKnownWraps(t *testing.T) {
	count, full := counted(32), strings.Repeat("\xff", 32)
	for _, x := range []struct{ under, name, key, wrapped string }{
		{noughts(32), "", noughts(32), "d96ffd8e5141b5f4a50647dae65648b8fcf5c4195a19893a2f2bb9c8db0612c7e22ef177eb520edbf99bdba7a8889a649f1e3c08e5a1dcad7ca620cf"},
		{full, "", full, "1e9b8f3e699dfa90207eab41427513c9823daafc99d23eaa85f4f3acf3a822e657367eb84b5e7354c58106560283b0caa8aa2d401e20aaa32d3c46d8"},
		{count, "a name", noughts(32), "4fe8af1728ce716d9e415a1143183e589144612f6fca700de3518cdea8432367cc309ec9cc1787c31c51811ac7fa34a189bcc66c5c917b7aa177f27b"},
		{noughts(32), "\x00", count, "39eae398dbb8380f9ffd007a3d83dd9837b5f970d3eae93cdde2f79771015f9d25693ca734fa710ca3613d204580d66f9c19252077a8cc46b646f596"},
		{count, "αβγ\xff\x00", count, "c2d7c002240d2e40c86d07039297021fa6b3b5877d9542c5a104a501fa798ab3ba889a9a30edfb0dc1b6889629dd935e94b4d392814cb58f07bc7d35"},
		{strings.Repeat("k", 32), strings.Repeat("n", 64), strings.Repeat("x", 32), "587d0f493007e885ab7c96db766c50f7a91c81c5a22d3e26a8c1cee7c0548ee384d7f9ed02217b1aae3233dddebe8d95ca8bb004075994869c8df886"},
	} {
		w := wrapped(t, x.under, x.name, x.key)
		if told(w) != x.wrapped {
			t.Errorf("%q: %s, not %s", x.name, told(w), x.wrapped)
		}
		unwraps(t, x.under, x.name, w, x.key)
	}
}

// P5.1, P5.2: names of all lengths, a piece of what is wrapped the next key, so that a fault in any of them is seen in the last.
func TestChainOfWraps(t *testing.T) {
	draw := mixer(1)
	key, w := draw(32), ""
	for n := range 65 {
		under, name := draw(32), draw(n)
		w = wrapped(t, under, name, key)
		unwraps(t, under, name, w, key)
		key = w[12:44]
	}
	if told(w) != "7d8073ab8c7585f6b66907ae8a6c4b4ca1f7b301e2dc116795f4732c4e6d8c98139f0e4ca421e59b1306ac139319220deeb9ba5f8e9bad9016677810" {
		t.Error(told(w))
	}
}

// P5.1: what is wrapped, by the chapter's words, of the layers below alone.
func TestWrappedByTheWords(t *testing.T) {
	draw := mixer(2)
	for n := range 65 {
		under, name, key := draw(32), draw(n), draw(32)
		nonce := mac.Tag(under, name+"\x00"+key)[:12]
		sealed, e := gcm.Seal(under, nonce, name, key)
		if w := wrapped(t, under, name, key); e != api.OK || w != nonce+sealed || len(w) != 60 {
			t.Errorf("a name of %d bytes: %d, %x", n, e, w)
		}
	}
}

// P5.1: keys of other lengths, both ways, also where the name is too long, too: ErrForm goes ahead.
func TestWrongLengths(t *testing.T) {
	draw := mixer(3)
	under, key, long := draw(32), draw(32), draw(2000)
	for _, name := range []string{"", "name", long[:64], long[:65], long} {
		w := wrapped(t, under, "name", key)
		for n := range 130 {
			piece := long[:n]
			if n != 32 {
				what := "a key above of " + strconv.Itoa(n)
				refusesToWrap(t, what, piece, name, key, api.ErrForm)
				refuses(t, what, piece, name, w, api.ErrForm)
				refusesToWrap(t, "a key of "+strconv.Itoa(n), under, name, piece, api.ErrForm)
				refusesToWrap(t, "both keys of "+strconv.Itoa(n), piece, name, piece, api.ErrForm)
			}
			if n != 60 {
				refuses(t, "wrapped bytes: "+strconv.Itoa(n), under, name, (w + long)[:n], api.ErrForm)
			}
		}
		refusesToWrap(t, "longer keys", long, name, long, api.ErrForm)
		refuses(t, "longer ones", long, name, long, api.ErrForm)
		refuses(t, "the key, not wrapped", under, name, key, api.ErrForm)
		refuses(t, "a byte less ahead", under, name, w[1:], api.ErrForm)
		refuses(t, "a nought more", under, name, w+"\x00", api.ErrForm)
		refusesToWrap(t, "a key of 32 runes", under, name, strings.Repeat("α", 32), api.ErrForm)
	}
}

// P5.1: a name has at most 64 bytes, whatever runes they are; whether the wrapped key holds isn't asked of a longer one.
func TestLongNames(t *testing.T) {
	draw := mixer(4)
	under, key := draw(32), draw(32)
	for _, name := range []string{"", "n", noughts(64), strings.Repeat("n", 63), strings.Repeat("\xff", 64), strings.Repeat("α", 32), strings.Repeat("𝛼", 16)} {
		unwraps(t, under, name, wrapped(t, under, name, key), key)
	}
	w := wrapped(t, under, "name", key)
	for _, name := range []string{noughts(65), draw(65), strings.Repeat("α", 33), strings.Repeat("𝛼", 17), draw(70000)} {
		what := "a name of " + strconv.Itoa(len(name))
		refusesToWrap(t, what, under, name, key, api.ErrLong)
		refuses(t, what, under, name, w, api.ErrLong)
		refuses(t, what, under, name, noughts(60), api.ErrLong)
		refuses(t, what+", vouched for", under, name, sealedWith(under, draw(12), name[:65], key), api.ErrLong)
	}
}

// sealedWith: a key's 60 bytes with a nonce that need not be its own.
func sealedWith(under, nonce, name, key string) string {
	sealed, _ := gcm.Seal(under, nonce, name, key)
	return nonce + sealed
}
