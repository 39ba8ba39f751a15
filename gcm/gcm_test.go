package gcm_test

import (
	"encoding/hex"
	"strconv"
	"strings"
	"testing"

	"keyloft/api"
	"keyloft/gcm"
)

func told(s string) string { return hex.EncodeToString([]byte(s)) }

func untold(t *testing.T, s string) string {
	t.Helper()
	b, err := hex.DecodeString(s)
	if err != nil {
		t.Fatal(err)
	}
	return string(b)
}

// mixer: bytes without a pattern, the same in each run.
func mixer(seed uint64) func(n int) string {
	return func(n int) string {
		b := make([]byte, n)
		for i := range b {
			seed = seed*6364136223846793005 + 1442695040888963407
			b[i] = byte(seed >> 56)
		}
		return string(b)
	}
}

func noughts(n int) string { return strings.Repeat("\x00", n) }

// flip: the text with one bit turned round.
func flip(s string, bit int) string {
	b := []byte(s)
	b[bit/8] ^= 1 << (bit % 8)
	return string(b)
}

func seal(t *testing.T, key, nonce, beside, text string) string {
	t.Helper()
	sealed, e := gcm.Seal(key, nonce, beside, text)
	if e != api.OK {
		t.Fatalf("Seal of %d bytes with %d beside: %d", len(text), len(beside), e)
	}
	return sealed
}

// opens: Open answers the text.
func opens(t *testing.T, key, nonce, beside, sealed, text string) {
	t.Helper()
	if s, e := gcm.Open(key, nonce, beside, sealed); e != api.OK || s != text {
		t.Fatalf("Open of %d sealed bytes with %d beside: %d, %d bytes", len(sealed), len(beside), e, len(s))
	}
}

// refuses: Open answers the error, and no text.
func refuses(t *testing.T, what, key, nonce, beside, sealed string, want api.Errno) {
	t.Helper()
	if s, e := gcm.Open(key, nonce, beside, sealed); e != want || s != "" {
		t.Errorf("Open, %s: %d, not %d, with %d bytes", what, e, want, len(s))
	}
}

// P4.1: the examples that came with the standard, for keys of 256 bits and nonces of 12 bytes, and some of no text, of no letters, and of all bits 1.
func TestKnownSeals(t *testing.T) {
	const (
		key    = "feffe9928665731c6d6a8f9467308308feffe9928665731c6d6a8f9467308308"
		nonce  = "cafebabefacedbaddecaf888"
		text   = "d9313225f88406e5a55909c5aff5269a86a7a9531534f7da2e4c303d8a318a721c3c0c95956809532fcf0e2449a6b525b16aedf5aa0de657ba637b391aafd255"
		body   = "522dc1f099567d07f47f37a32a84427d643a8cdcbfe5c0c97598a2bd2555d1aa8cb08e48590dbb3da7b08b1056828838c5f61e6393ba7a0abcc9f662898015ad"
		beside = "feedfacedeadbeeffeedfacedeadbeefabaddad2"
	)
	zeroKey, zeroNonce := told(noughts(32)), told(noughts(12))
	for _, x := range []struct{ key, nonce, beside, text, sealed string }{
		{zeroKey, zeroNonce, "", "", "530f8afbc74536b9a963b4f1c4cb738b"},
		{zeroKey, zeroNonce, "", told(noughts(16)), "cea7403d4d606b6e074ec5d3baf39d18d0d1c8a799996bf0265b98b5d48ab919"},
		{key, nonce, "", text, body + "b094dac5d93471bdec1a502270e3cc6c"},
		{key, nonce, beside, text[:120], body[:120] + "76fc6ece0f4e1768cddf8853bb2d551b"},
		{key, nonce, beside, "", "9f6be07603c0b0bd1272854063e9c9ba"},
		{key, nonce, told("αβ"), told("γδε\x00\xff"), "45af3d61af677b1dbfc998556147c55c65723eb45a9149d5"},
		{strings.Repeat("ff", 32), strings.Repeat("ff", 12), strings.Repeat("ff", 20), strings.Repeat("ff", 20), "42c4417ae76f276beb09973a4b9b3715e6a0fc4d2b0c152f35e52c9d2977db7a79d14a4a"},
	} {
		key, nonce, beside, text := untold(t, x.key), untold(t, x.nonce), untold(t, x.beside), untold(t, x.text)
		sealed := seal(t, key, nonce, beside, text)
		if told(sealed) != x.sealed {
			t.Errorf("%s beside %s: %s, not %s", x.text, x.beside, told(sealed), x.sealed)
		}
		opens(t, key, nonce, beside, sealed, text)
	}
}

// P4.1: texts and besides about as long as whole blocks, about the place where a counter's last byte goes round (its number 256 presses the text's bytes from 4064 on), and as long as may be.
func TestLengths(t *testing.T) {
	for _, x := range []struct {
		text, beside int
		tag          string
	}{
		{0, 0, "af8df2d0d0273bcf05811001877a7aa3"},
		{1, 0, "5a309993a5a72bee1af311810994617d"},
		{0, 1, "6729277f199365a298ae997566b901f9"},
		{15, 15, "b5b7127d2dce41841b2c3b6a8a366b45"},
		{15, 16, "d3e46f9ec541b6b78500f32e265afede"},
		{16, 15, "06841e242c5e7a1b54d9ea4391e0deb3"},
		{16, 16, "902f3ef2c5222a6e0b70739331b0eff4"},
		{16, 17, "a65bf0bc93fd3d8b1d987142b807f938"},
		{17, 16, "1a5c5fa0fa432529dd9a14a06753fc46"},
		{17, 17, "48ce8ee2810c4d584d816d3d2f4418ce"},
		{31, 33, "a1f8fe9449871db1600ac7d77638fc52"},
		{32, 32, "293176457aaaaa6fa78358f2bde4b787"},
		{33, 31, "eec50b41555cc1ec591012606793179f"},
		{255, 1, "84a60ce1a53af418952e4c4a5dea5e99"},
		{1024, 77, "9a0847387b1078b896380fe1daf8ccd2"},
		{4048, 0, "4640351188adeb8247f3ea83deca31fc"},
		{4064, 0, "2b13a3205363d8765cae5323aabf08f7"},
		{4080, 0, "5fdcc842dd90b1a8f13bd35e5c454b53"},
		{4096, 8192, "e956ff9d3683720c033dfabfbb6b6999"},
		{65535, 0, "c400f2d67c6fbe6c235b37ca5524d8c9"},
		{65536, 0, "fd4e13cd592f9c73d716ddedcda09565"},
		{0, 65535, "f8c68b8128c408c7d4ff6fdfbb389923"},
		{0, 65536, "02d65682d0e8b2775c9e33f9adabbe58"},
		{65536, 65536, "78075abf7936d9e5d77474856fe65815"},
	} {
		draw := mixer(uint64(1000*x.text + x.beside))
		key, nonce, beside, text := draw(32), draw(12), draw(x.beside), draw(x.text)
		sealed := seal(t, key, nonce, beside, text)
		if len(sealed) != x.text+16 || told(sealed[x.text:]) != x.tag {
			t.Errorf("%d bytes with %d beside: %d sealed bytes, not ending in %s", x.text, x.beside, len(sealed), x.tag)
		}
		opens(t, key, nonce, beside, sealed, text)
	}
}

// P4.1: texts of all lengths to 299, what is sealed beside the next, so that a fault in any of them is seen in the last.
func TestChainOfSeals(t *testing.T) {
	draw := mixer(1)
	sealed := ""
	for n := range 300 {
		key, nonce := draw(32), draw(12)
		beside := sealed + draw(n*7%211)
		text := draw(n)
		sealed = seal(t, key, nonce, beside, text)
		opens(t, key, nonce, beside, sealed, text)
	}
	if tag := told(sealed[299:]); tag != "5ec1ab6e495a62d4b794e364860aff6c" {
		t.Error(tag)
	}
}

// P4.1: keys and nonces of other lengths, also where something is too long, too: ErrForm goes ahead.
func TestWrongKeysAndNonces(t *testing.T) {
	draw := mixer(2)
	key, nonce, text, long := draw(32), draw(12), draw(20), draw(65537)
	sealed := seal(t, key, nonce, "beside", text)
	refused := func(what, key, nonce string) {
		for _, beside := range []string{"beside", "", long} {
			for _, text := range []string{text, "", long} {
				if s, e := gcm.Seal(key, nonce, beside, text); e != api.ErrForm || s != "" {
					t.Errorf("Seal, %s: %d, with %d bytes", what, e, len(s))
				}
			}
			for _, sealed := range []string{sealed, noughts(16), long + sealed} {
				refuses(t, what, key, nonce, beside, sealed, api.ErrForm)
			}
		}
	}
	for n := range 70 {
		if n != 32 {
			refused("a key of "+strconv.Itoa(n), long[:n], nonce)
		}
		if n != 12 {
			refused("a nonce of "+strconv.Itoa(n), key, long[:n])
		}
	}
	refused("a longer key", key+key, nonce)
	refused("a key of a nonce's length, and the other way round", nonce, key)
	refused("a key of runes", strings.Repeat("α", 32), nonce)
	refused("long ones", long, long)
}

// P4.1: what is sealed has at least a tag; less is ErrForm, also where the beside is too long, too.
func TestSealedWithoutTag(t *testing.T) {
	draw := mixer(3)
	key, nonce := draw(32), draw(12)
	sealed := seal(t, key, nonce, "beside", "")
	for n := range 16 {
		what := "sealed bytes: " + strconv.Itoa(n)
		refuses(t, what, key, nonce, "beside", sealed[:n], api.ErrForm)
		refuses(t, what, key, nonce, draw(65537), sealed[:n], api.ErrForm)
	}
	opens(t, key, nonce, "beside", sealed, "")
	refuses(t, "16 other bytes", key, nonce, "beside", noughts(16), api.ErrCorrupt)
}

// P4.1: one byte more than may be, in the text, the body, or beside; whether the tag holds isn't asked then.
func TestTooLong(t *testing.T) {
	draw := mixer(4)
	key, nonce, long := draw(32), draw(12), draw(65537)
	longer := strings.Repeat(long, 3)
	for _, x := range []struct {
		beside, text string
		want         api.Errno
	}{
		{long[1:], long[1:], api.OK},
		{"", long, api.ErrLong},
		{long, "", api.ErrLong},
		{long, long, api.ErrLong},
		{long[1:], long, api.ErrLong},
		{long, long[1:], api.ErrLong},
		{"", longer, api.ErrLong},
		{longer, "text", api.ErrLong},
	} {
		what := strconv.Itoa(len(x.text)) + " bytes with " + strconv.Itoa(len(x.beside)) + " beside"
		if s, e := gcm.Seal(key, nonce, x.beside, x.text); e != x.want || e != api.OK && s != "" {
			t.Errorf("Seal of %s: %d, with %d bytes", what, e, len(s))
		}
		want := x.want
		if want == api.OK {
			want = api.ErrCorrupt // the tag is one of noughts here
		}
		refuses(t, what, key, nonce, x.beside, x.text+noughts(16), want)
	}
}

// P4.1: what a call answers hangs on its arguments alone.
func TestSealedAgain(t *testing.T) {
	draw := mixer(5)
	key, nonce, beside, text := draw(32), draw(12), draw(33), draw(50)
	sealed := seal(t, key, nonce, beside, text)
	for range 3 {
		seal(t, draw(32), draw(12), draw(5), draw(70))
		refuses(t, "under a key of others", draw(32), nonce, beside, sealed, api.ErrCorrupt)
		if seal(t, key, nonce, beside, text) != sealed {
			t.Error("sealed again it is something else")
		}
		opens(t, key, nonce, beside, sealed, text)
	}
}
