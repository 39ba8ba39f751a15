package mac_test

import (
	"encoding/hex"
	"strconv"
	"strings"
	"testing"

	"keyloft/mac"
	"keyloft/sha"
)

func told(s string) string { return hex.EncodeToString([]byte(s)) }

// mixer: bytes without a pattern, the same in each run.
func mixer(seed uint64) func(n int) string {
	return func(n int) string {
		b := make([]byte, n)
		for i := range b {
			seed = seed*6364136223846793005 + 1442695040888963407
			b[i] = byte(seed >> 56)
		}
		return string(b)
	}
}

// run: the bytes from one on, one higher each.
func run(from, n int) string {
	b := make([]byte, n)
	for i := range b {
		b[i] = byte(from + i)
	}
	return string(b)
}

// look: the tag of a text under a key, of one part, and Check knows it.
func look(t *testing.T, name, key, text, want string) {
	t.Helper()
	tag := mac.Tag(key, text)
	if told(tag) != want {
		t.Errorf("%s: %s, not %s", name, told(tag), want)
	}
	if !mac.Check(key, tag, text) {
		t.Errorf("%s: Check says no", name)
	}
}

// P3.1: the examples of RFC 4231 (the whole tag of the one that cuts it), and keys and texts of no bytes, and such as are no letters.
func TestKnownTags(t *testing.T) {
	for _, x := range []struct{ key, text, tag string }{
		{strings.Repeat("\x0b", 20), "Hi There", "b0344c61d8db38535ca8afceaf0bf12b881dc200c9833da726e9376c2e32cff7"},
		{"Jefe", "what do ya want for nothing?", "5bdcc146bf60754e6a042426089575c75a003f089d2739839dec58b964ec3843"},
		{strings.Repeat("\xaa", 20), strings.Repeat("\xdd", 50), "773ea91e36800e46854db8ebd09181a72959098b3ef8c122d9635514ced565fe"},
		{run(1, 25), strings.Repeat("\xcd", 50), "82558a389a443c0ea4cc819899f2083a85f0faa3e578f8077a2e3ff46729665b"},
		{strings.Repeat("\x0c", 20), "Test With Truncation", "a3b6167473100ee06e0c796c2955552bfa6f7c0a6a8aef8b93f860aab0cd20c5"},
		{strings.Repeat("\xaa", 131), "Test Using Larger Than Block-Size Key - Hash Key First", "60e431591ee0b67f0d8a26aacbf5b77f8e0bc6213728c5140546040f0ee37f54"},
		{strings.Repeat("\xaa", 131), "This is a test using a larger than block-size key and a larger than block-size data. The key needs to be hashed before being used by the HMAC algorithm.", "9b09ffa71b942fcb27635fbcd5b0e944bfdc63644f0713938a7f51535c3a35e2"},
		{"", "", "b613679a0814d9ec772f95d778c35fc5ff1697c493715653c6c712144292c5ad"},
		{"", "abc", "fd7adb152c05ef80dccf50a1fa4c05d5a3ec6da95575fc312ae7c5d091836351"},
		{"key", "", "5d5d139563c95b5967b9bd9a8c9b233a9dedb45072794cd232dc1b74832607d0"},
		{strings.Repeat("\xff", 64), "\xff", "9caa5d108a595bb3e75debb3deeb65025af8450f3f23e0940ced7244b368027f"},
		{"αβγ", "δε", "e645a94de5f87283d2c31cc79b7c11737d4f00f6c4e387e43bad170c329b7999"},
	} {
		look(t, told(x.key)+" "+told(x.text), x.key, x.text, x.tag)
	}
}

// P3.1: keys about as long as the block: one of 64 bytes stands there itself, one of 65 by its digest.
func TestLengthsOfKeys(t *testing.T) {
	for _, x := range []struct {
		n   int
		tag string
	}{
		{0, "0611b704abab473f956257a09cc2fc2c867211d077bdffc5a91bd8a5047826ff"},
		{1, "c1a9bf454b10dfe16515829275ce8fd6e5c7a5df851245037730352a6046f1a5"},
		{31, "b933d87479a2795914f4a60f99b85b9f3727e3f25e964952fcf40a4ea84cbe43"},
		{32, "8d3a9f54db4f3f1e3addef3fc62a0359d0d9d2a87c07cf465284062fded2baa2"},
		{33, "01d1f912058000c819422387e6547eea3e1806bc921ee045a755b9bb5b496cb9"},
		{63, "c90d83e78c64ee16fe2eefa3e8a834d79d1d3d0ea483f8d9908323b714c7f134"},
		{64, "0414bb1d8c0c4556cdb2028727b16610ae377b1a194b6db1f853d4297f2329bc"},
		{65, "5b69580123e3d7e788b7e8352ac37a3247b911c5ec0837147b74109a6382d3f5"},
		{66, "b7a43cb5f9b9fcb1dbfc4818c5ea7629088dbe446030f946357a2b915be03b95"},
		{127, "48071730503faa87923e681eeefcf9b58813809c4d527e10afa0e76a3edf4c11"},
		{128, "45e99812fad5e4a011b7eaeade4d079afb74236bde40538797cdcb7bf32c4112"},
		{129, "95ef5ad24165eaeb8756fa950601736fa9f2113623a6bcad936f934bec337d65"},
		{1000, "f59f3ee05de3da8f809d2a5ae63f8cbd1e4bad7cfa9b690b60314592150e6acb"},
	} {
		look(t, "a key of "+strconv.Itoa(x.n), strings.Repeat("k", x.n), "text", x.tag)
	}
}

// P3.1: texts about as long as what the digest takes at once.
func TestLengthsOfTexts(t *testing.T) {
	for _, x := range []struct {
		n   int
		tag string
	}{
		{1, "780c3db4ce3de5b9e55816fba98f590631d96c075271b26976238d5f4444219b"},
		{55, "5c753ac4cf15a28e7b5a045ba8ce75e02545a313f326021d770912f768fb53ef"},
		{56, "e9613a403652aa5873dba8b56f223826236e87559a8d8ac63190613796d2319a"},
		{63, "c5531cccae97b1a3e84ffd19fb9468e928c41d6acb9279cf4bac4aaf314196ae"},
		{64, "77207571ea4243ad8e0f220679a62f9033b6d2f59f8d44517d8e9c4857b96fa0"},
		{65, "4361807d77bd8d84a0ec7bc26ddb24e62e4ab3c65196d1c63ef12db96ce974d0"},
		{119, "4ffbedd6a1157e63e62d3fa284549bcfe39fb98dbb77ac48a89120aed5747d6b"},
		{120, "d1cd515a6389be4c26cf09c03af5b128fe8fcc95992b8e2bae38bef7e54b3ef1"},
		{128, "b8e3a64cbd7ba55e73230992b611446c6c7f0a1e151f2f474acca2c8fd4a2f09"},
		{1000, "db636adca1d68c3ad2b38a24933870131c45f55262bf8f07b0c9bdc728ee5fb9"},
		{1000000, "6e7005164aec3b1035635787fbdd6b729031b2eb39915ec3bd249d52731cc7a5"},
	} {
		look(t, "a text of "+strconv.Itoa(x.n), "key", strings.Repeat("a", x.n), x.tag)
	}
}

// P3.1: keys of all lengths to 299, each tag in the text of the next, so that a fault in any of them is seen in the last.
func TestChainOfTags(t *testing.T) {
	draw := mixer(1)
	tag := ""
	for n := range 300 {
		key := draw(n)
		tag = mac.Tag(key, tag, draw(n*7%211))
	}
	if told(tag) != "759e2b8690a042f31f9f6ba4ba6f132ec4b79e5fd938dd343b0de73864f0f9ba" {
		t.Error(told(tag))
	}
}

// P3.1: the chapter's own words: what two keys' blocks have in common, their tags have.
func TestSameBlock(t *testing.T) {
	draw := mixer(2)
	for n := 65; n < 200; n++ {
		long := draw(n)
		if mac.Tag(long, "text") != mac.Tag(sha.Of(long), "text") {
			t.Errorf("a key of %d bytes isn't held by its digest", n)
		}
	}
	for n := range 65 {
		key := draw(n)
		if mac.Tag(key, "text") != mac.Tag(key+strings.Repeat("\x00", 64-n), "text") {
			t.Errorf("a key of %d bytes isn't filled up with bytes 0", n)
		}
		if n > 0 && mac.Tag(key, "text") == mac.Tag("\x00"+key[:n-1], "text") {
			t.Errorf("a key of %d bytes is filled up ahead of it", n)
		}
	}
	whole := draw(64)
	if mac.Tag(whole, "text") == mac.Tag(sha.Of(whole), "text") {
		t.Error("a key of 64 bytes is held by its digest")
	}
}

// P3.1: the tag is of all parts' bytes, wherever they are cut.
func TestPartsOfTags(t *testing.T) {
	text := mixer(3)(150)
	tag := mac.Tag("key", text)
	for i := range len(text) + 1 {
		for j := i; j <= len(text); j++ {
			if mac.Tag("key", text[:i], text[i:j], text[j:]) != tag {
				t.Fatalf("parts cut at %d and %d have another tag", i, j)
			}
			if i%10 == 0 && !mac.Check("key", tag, text[:i], text[i:j], text[j:]) {
				t.Fatalf("Check of parts cut at %d and %d says no", i, j)
			}
		}
	}
	var single []string
	for i := range len(text) {
		single = append(single, text[i:i+1])
	}
	if mac.Tag("key", single...) != tag {
		t.Error("parts of one byte each have another tag")
	}
	none := mac.Tag("key", "")
	if mac.Tag("key") != none || mac.Tag("key", nil...) != none || mac.Tag("key", "", "", "") != none {
		t.Error("no parts aren't as parts of no bytes")
	}
}

// P3.1: the parts that are handed in stay as they are, their spare room, too.
func TestPartsStay(t *testing.T) {
	parts := []string{"a", "", "bc", "spare", "room"}
	tag := mac.Tag("key", parts[:3]...)
	if !mac.Check("key", tag, parts[:3]...) || mac.Tag("key", parts[:3]...) != tag {
		t.Error("asked again, the tag is another one")
	}
	if strings.Join(parts, ",") != "a,,bc,spare,room" {
		t.Error(parts)
	}
}
