package sha_test

import (
	"encoding/hex"
	"strconv"
	"strings"
	"testing"

	"keyloft/sha"
)

const ofNone = "e3b0c44298fc1c149afbf4c8996fb92427ae41e4649b934ca495991b7852b855"

func told(s string) string { return hex.EncodeToString([]byte(s)) }

// mixer: bytes without a pattern, the same in each run.
func mixer(seed uint64) func(n int) string {
	return func(n int) string {
		b := make([]byte, n)
		for i := range b {
			seed = seed*6364136223846793005 + 1442695040888963407
			b[i] = byte(seed >> 56)
		}
		return string(b)
	}
}

// look: a text has this digest, by Of and by a tally, both of which know how many bytes it has.
func look(t *testing.T, name, text, digest string) {
	t.Helper()
	if d := told(sha.Of(text)); d != digest {
		t.Errorf("Of(%s): %s, not %s", name, d, digest)
	}
	tally := sha.New().Add(text)
	if d := told(tally.Sum()); d != digest {
		t.Errorf("the tally of %s: %s, not %s", name, d, digest)
	}
	if n := tally.Len(); n != len(text) {
		t.Errorf("the tally of %s: %d bytes, not %d", name, n, len(text))
	}
}

// P2.1: the standard's own examples, and bytes that are no letters.
func TestKnownAnswers(t *testing.T) {
	for _, x := range []struct{ text, digest string }{
		{"", ofNone},
		{"abc", "ba7816bf8f01cfea414140de5dae2223b00361a396177a9cb410ff61f20015ad"},
		{"abcdbcdecdefdefgefghfghighijhijkijkljklmklmnlmnomnopnopq", "248d6a61d20638b8e5c026930c3e6039a33ce45964ff2167f6ecedd419db06c1"},
		{"abcdefghbcdefghicdefghijdefghijkefghijklfghijklmghijklmnhijklmnoijklmnopjklmnopqklmnopqrlmnopqrsmnopqrstnopqrstu", "cf5b16a778af8380036ce59e7b0492370b249b11e8f07a51afac45037afee9d1"},
		{"\x00", "6e340b9cffb37a989ca544e6bb780a2c78901d3fb33738768511a30617afa01d"},
		{"a\x00", "ffe9aaeaa2a2d5048174df0b80599ef0197ec024c4b051bc9860cff58ef7f9f3"},
		{"\x80", "76be8b528d0075f7aae98d6fa57a6d3c83ae480a8469e668d7b0af968995ac71"},
		{"\xbd", "68325720aabd7c82f30f554b313d0570c95accbb7dc4b5aae11204c08ffe732b"},
		{"\xff", "a8100ae6aa1940d0b663bb31cd466142ebbdbd5187131b92d93818987832eb89"},
		{"\xc9\x8c\x8e\x55", "7abc22c0ae5af26ce93dbb94433a0e0b2e119d014f8e7f65bd56c61ccccd9504"},
		{"αβγ", "a36d0b22783c5fac3141df5bd7c0cd4c58abfaf8e2eff196ff3043226d66fbb1"},
		{strings.Repeat("\x00", 55), "02779466cdec163811d078815c633f21901413081449002f24aa3e80f0b88ef7"},
		{strings.Repeat("\x00", 56), "d4817aa5497628e7c77e6b606107042bbba3130888c5f47a375e6179be789fbb"},
		{strings.Repeat("\x00", 57), "65a16cb7861335d5ace3c60718b5052e44660726da4cd13bb745381b235a1785"},
		{strings.Repeat("\x00", 64), "f5a5fd42d16a20302798ef6ed309979b43003d2320d9f0e8ea9831a92759fb4b"},
		{strings.Repeat("\xff", 64), "8667e718294e9e0df1d30600ba3eeb201f764aad2dad72748643e4a285e1d1f7"},
		{strings.Repeat("\xff", 65), "855c9a28fff2bbbd71327165554a00c6fdd44d5d58c1f12b8fdff29b5d67f001"},
	} {
		look(t, told(x.text), x.text, x.digest)
	}
}

// P2.1: lengths about those at which a block is full, or at which the count of bits goes into the same block just so.
func TestKnownLengths(t *testing.T) {
	for _, x := range []struct {
		n      int
		digest string
	}{
		{1, "ca978112ca1bbdcafac231b39a23dc4da786eff8147c4e72b9807785afee48bb"},
		{54, "a3f01b6939256127582ac8ae9fb47a382a244680806a3f613a118851c1ca1d47"},
		{55, "9f4390f8d30c2dd92ec9f095b65e2b9ae9b0a925a5258e241c9f1e910f734318"},
		{56, "b35439a4ac6f0948b6d6f9e3c6af0f5f590ce20f1bde7090ef7970686ec6738a"},
		{57, "f13b2d724659eb3bf47f2dd6af1accc87b81f09f59f2b75e5c0bed6589dfe8c6"},
		{63, "7d3e74a05d7db15bce4ad9ec0658ea98e3f06eeecf16b4c6fff2da457ddc2f34"},
		{64, "ffe054fe7ae0cb6dc65c3af9b61d5209f439851db43d0ba5997337df154668eb"},
		{65, "635361c48bb9eab14198e76ea8ab7f1a41685d6ad62aa9146d301d4f17eb0ae0"},
		{119, "31eba51c313a5c08226adf18d4a359cfdfd8d2e816b13f4af952f7ea6584dcfb"},
		{120, "2f3d335432c70b580af0e8e1b3674a7c020d683aa5f73aaaedfdc55af904c21c"},
		{127, "c57e9278af78fa3cab38667bef4ce29d783787a2f731d4e12200270f0c32320a"},
		{128, "6836cf13bac400e9105071cd6af47084dfacad4e5e302c94bfed24e013afb73e"},
		{129, "c12cb024a2e5551cca0e08fce8f1c5e314555cc3fef6329ee994a3db752166ae"},
		{1000, "41edece42d63e8d9bf515a9ba6932e1c20cbc9f5a5d134645adb5db1b9737ea3"},
		{1000000, "cdc76e5c9914fb9281a1c7e284d73e67f1809a48a497200e046d39ccc7112cd0"},
	} {
		look(t, strconv.Itoa(x.n)+" times a", strings.Repeat("a", x.n), x.digest)
	}
}

// P2.1: all lengths to 1024, each behind the digest of the one ahead, so that a fault in any of them is seen in the last.
func TestChain(t *testing.T) {
	draw := mixer(1)
	d := sha.Of("")
	for n := range 1025 {
		d = sha.Of(d + draw(n))
	}
	if told(d) != "85b6bbc92834592dfab6be163b9054b57cd061244389b66336e5b80f36c5587e" {
		t.Error(told(d))
	}
}

// P2.1: the count of bits has 8 bytes; here it grows into the second, the third, the fourth and the fifth of them.
func TestCounts(t *testing.T) {
	zeros := strings.Repeat("\x00", 1<<20)
	tally := sha.New()
	for _, x := range []struct {
		n      int
		digest string
	}{
		{1<<5 - 1, "fd08be957bda07dc529ad8100df732f9ce12ae3e42bcda6acabe12c02dfd6989"},
		{1 << 5, "66687aadf862bd776c8fc18b8e9f8e20089714856ee233b3902a591d0d5f2925"},
		{1<<13 - 1, "ded7e73bae26db73b29a51bca3cd2d1d6906107d889775f610f0ce63c2089365"},
		{1 << 13, "9f1dcbc35c350d6027f98be0f5c8b43b42ca52b7604459c0c42be3aa88913d47"},
		{1<<21 - 1, "3eae3e14862b9061a2cbe9c782df1366039096b2d1888c30850b66fb8d87813c"},
		{1 << 21, "5647f05ec18958947d32874eeb788fa396a05d0bab7c1b71f112ceb7e9b31eee"},
		{1<<29 - 1, "bf7f45d9df691bd277948d7f124b87a9f76e16ddb5d8fb25a49df939798f0a01"},
		{1 << 29, "9acca8e8c22201155389f65abbf6bc9723edc7384ead80503839f49dcc56d767"},
	} {
		for more := x.n - tally.Len(); more > 0; more = x.n - tally.Len() {
			tally.Add(zeros[:min(more, len(zeros))])
			if tally.Len() > x.n || x.n-tally.Len() >= more {
				t.Fatalf("%d bytes, of which %d should be missing", tally.Len(), more)
			}
		}
		if d := told(tally.Sum()); d != x.digest {
			t.Errorf("%d bytes: %s, not %s", x.n, d, x.digest)
		}
	}
}
