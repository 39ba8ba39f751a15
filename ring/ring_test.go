package ring_test

import (
	"encoding/hex"
	"math"
	"strconv"
	"strings"
	"testing"

	"keyloft/api"
	"keyloft/ring"
)

func told(s string) string { return hex.EncodeToString([]byte(s)) }

// mixer: bytes without a pattern, the same in each run.
func mixer(seed uint64) func(n int) string {
	return func(n int) string {
		b := make([]byte, n)
		for i := range b {
			seed = seed*6364136223846793005 + 1442695040888963407
			b[i] = byte(seed >> 56)
		}
		return string(b)
	}
}

func noughts(n int) string { return strings.Repeat("\x00", n) }
func full(n int) string    { return strings.Repeat("\xff", n) }

// counted: the bytes 0, 1, 2, ..
func counted(n int) string {
	b := make([]byte, n)
	for i := range b {
		b[i] = byte(i)
	}
	return string(b)
}

// flip: the text with one bit turned round.
func flip(s string, bit int) string {
	b := []byte(s)
	b[bit/8] ^= 1 << (bit % 8)
	return string(b)
}

// wrongNumbers: of domains and versions alike, with such as have a right one's last bytes.
func wrongNumbers() []int {
	return []int{0, -1, -8, 9, 10, 16, 255, 256, 257, 264, -255, -248, 1 << 16, 1<<24 + 1, 1<<32 + 1, 1<<32 + 8, -1<<32 + 1, 1<<40 + 3, math.MaxInt, math.MinInt, math.MinInt + 1}
}

func ringOf(t *testing.T, root string) *ring.Ring {
	t.Helper()
	r, e := ring.New(root)
	if e != api.OK || r == nil {
		t.Fatalf("New: %d", e)
	}
	return r
}

func domainOf(t *testing.T, r *ring.Ring, n int, draw string) string {
	t.Helper()
	w, e := r.Domain(n, draw)
	if e != api.OK || len(w) != 60 {
		t.Fatalf("Domain %d: %d, with %d bytes", n, e, len(w))
	}
	return w
}

// P11.1: a ring is of a root of 32 bytes, whatever bytes they are.
func TestRoots(t *testing.T) {
	long := mixer(1)(3000)
	for n := range 200 {
		if n != 32 {
			refusesRoot(t, long[:n])
		}
	}
	refusesRoot(t, long)
	refusesRoot(t, strings.Repeat("α", 32))
	for _, root := range []string{noughts(32), full(32), counted(32), long[:32], strings.Repeat("α", 16)} {
		ringOf(t, root)
	}
}

// refusesRoot: New answers ErrForm, and no ring.
func refusesRoot(t *testing.T, root string) {
	t.Helper()
	if r, e := ring.New(root); e != api.ErrForm || r != nil {
		t.Errorf("New of %d bytes: %d, and a ring: %t", len(root), e, r != nil)
	}
}

// P11.1: known answers, made by other programs of HKDF, HMAC and GCM.
func TestKnownDomains(t *testing.T) {
	for _, x := range []struct {
		root    string
		n       int
		draw    string
		wrapped string
	}{
		{noughts(32), 1, "", "2355b1a01c1ff85b3ceeb3a6fb6f506203c5f728f708743d9ad12abd3b793e34c2e2d07f225218a0cc5047fa7e438980d159bdd5bebd17fe57a3a9c0"},
		{counted(32), 1, "draw", "8f9b72669d21bdb25888e398a1af485df09eecce83be791aa226848031d34f746248769f4d6060938aeee7c7a12c84f97c13fd519de2343650c9bcbb"},
		{counted(32), 8, "draw", "1e6108ad0c025044eab6456f86bd1f4e6cb29d8c02f3745857b4aa31a34c1319f9ef4569049ca86629597a06d1b91d6d2a9fc06b8d673a0f4c6b363c"},
		{full(32), 5, noughts(32), "546e0e5c64dbf3c03682a66f401e4b4f4a5e29eddc576bbddb634762eeac4bbf4c11bafe9a46d928fd70d68a9d6d3318000a4bb786ce83c5af06f98b"},
	} {
		if w := domainOf(t, ringOf(t, x.root), x.n, x.draw); told(w) != x.wrapped {
			t.Errorf("domain %d of %q: %s, not %s", x.n, x.draw, told(w), x.wrapped)
		}
	}
}

// P11.1: known answers, made likewise; draws of a block of the digest, of one byte more, and of none.
func TestKnownData(t *testing.T) {
	for _, x := range []struct{ draw, key string }{
		{"", "08e7d2ea0a447350d5e185eadecee1e7c2a3c5568a12d2506e3fb9767b07d2ba"},
		{"draw", "0c89f6c339b9730771e2b6c9c8995e51032f49a382e1516f1d88a854331bbb85"},
		{"\x00", "8f04026940884e825130e13bfe8bfa1e6d7951ed7adf67afeaa6ba23747ba544"},
		{counted(32), "1886ffaa7913397f3eb232a2a7f11d83d5b95a49181fbfe03d523f326ce0709e"},
		{strings.Repeat("x", 64), "decb5973d69c8934ffe0c06fbae722feb08e3739e979efb32c314db04ccd5d90"},
		{strings.Repeat("x", 65), "9224c029ee1a44c620a7a62f43e9a35987df42b248c21e610107817e68c571a3"},
		{strings.Repeat("x", 1000), "e18c55964addf7fbc96e903da4f9f952162790e9548613a640c544cb0f650ad0"},
	} {
		for range 2 {
			if key := ring.Data(x.draw); told(key) != x.key {
				t.Errorf("Data of %d bytes: %s, not %s", len(x.draw), told(key), x.key)
			}
		}
	}
}

// P11.1: numbers of domains are 1 to 8; each number, draw and root has a key of its own.
func TestDomains(t *testing.T) {
	draw := mixer(2)
	roots := []string{noughts(32), flip(noughts(32), 255), draw(32)}
	draws := []string{"", "\x00", "d", draw(32), draw(64), draw(65), draw(70000)}
	seen := map[string]bool{}
	for _, root := range roots {
		r := ringOf(t, root)
		for n := 1; n <= 8; n++ {
			for _, d := range draws {
				w := domainOf(t, r, n, d)
				if w != domainOf(t, ringOf(t, root), n, d) {
					t.Errorf("domain %d of %d bytes is another one when it is asked for again", n, len(d))
				}
				seen[w] = true
			}
		}
	}
	if len(seen) != len(roots)*8*len(draws) {
		t.Errorf("%d domains", len(seen))
	}
}

// P11.1: other numbers aren't one's, also such as have a right one's last bytes.
func TestWrongDomains(t *testing.T) {
	r := ringOf(t, counted(32))
	refuses := func(n int) {
		for _, draw := range []string{"", "draw", counted(32)} {
			if w, e := r.Domain(n, draw); e != api.ErrRange || w != "" {
				t.Errorf("Domain %d: %d, with %d bytes", n, e, len(w))
			}
		}
	}
	for n := range 600 {
		refuses(-n)
		refuses(9 + n)
	}
	for _, n := range wrongNumbers() {
		refuses(n)
	}
}

// P11.1: data keys are of the draw alone, and neither domains' nor backing keys.
func TestData(t *testing.T) {
	draw := mixer(3)
	seen := map[string]bool{}
	for n := range 200 {
		d := draw(n)
		key := ring.Data(d)
		if len(key) != 32 || key != keyOf("data", d, "") {
			t.Errorf("Data of %d bytes: %x", n, key)
		}
		if key == keyOf("domain", d, "") || key == keyOf("backing", d, "") {
			t.Error("another kind's key of " + strconv.Itoa(n) + " bytes")
		}
		seen[key] = true
	}
	if len(seen) != 200 {
		t.Errorf("%d data keys of 200 draws", len(seen))
	}
}
