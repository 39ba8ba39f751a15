package mac_test

import (
	"math"
	"strings"
	"testing"

	"keyloft/api"
	"keyloft/mac"
	"keyloft/sha"
)

const mostDerived = 8160

// derived: what is answered without an error, as many bytes as were asked for.
func derived(t *testing.T, salt, secret, info string, n int) string {
	t.Helper()
	out, e := mac.Derive(salt, secret, info, n)
	if e != api.OK || len(out) != n {
		t.Fatalf("%d bytes: error %d, %d bytes", n, e, len(out))
	}
	return out
}

// P3.1: the examples of RFC 5869, and texts of no bytes in each place.
func TestKnownDerived(t *testing.T) {
	for _, x := range []struct {
		salt, secret, info string
		n                  int
		want               string
	}{
		{run(0, 13), strings.Repeat("\x0b", 22), run(0xf0, 10), 42, "3cb25f25faacd57a90434f64d0362f2a2d2d0a90cf1a5a4c5db02d56ecc4c5bf34007208d5b887185865"},
		{run(0x60, 80), run(0, 80), run(0xb0, 80), 82, "b11e398dc80327a1c8e7f78c596a49344f012eda2d4efad8a050cc4c19afa97c59045a99cac7827271cb41c65e590e09da3275600c2f09b8367793a9aca3db71cc30c58179ec3e87c14c01d5c1f3434f1d87"},
		{"", strings.Repeat("\x0b", 22), "", 42, "8da4e775a563c18f715f802a063c5a31b8a11f5c5ee1879ec3454e5f3c738d2d9d201395faa4b61a96c8"},
		{"", "", "", 32, "eb70f01dede9afafa449eee1b1286504e1f62388b3f7dd4f956697b0e828fe18"},
		{"salt", "", "", 32, "3575f53d43a910da7c16d7ec27dce663b83bb193d183b5eb3c3bdab69e35efed"},
		{"", "secret", "", 1, "2f"},
		{"", "", "info", 33, "9c9c026055b7e6649ec5bf9ac4b3485f38735832679e4bced420d37e18e2175541"},
	} {
		if out := told(derived(t, x.salt, x.secret, x.info, x.n)); out != x.want {
			t.Errorf("%d bytes of %q, %q, %q: %s, not %s", x.n, x.salt, x.secret, x.info, out, x.want)
		}
	}
}

// P3.1: the longest rows that there are: their last tags have the greatest numbers of one byte.
func TestLongestDerived(t *testing.T) {
	for _, x := range []struct {
		n      int
		digest string
	}{
		{8128, "36931d7300bc1afb6452c1000c63e0a6f15b74df367383d0370141b6036c232f"},
		{8129, "68c83fd728068e9cfc94422dd4d70fb440e08c40140171c79646b91de107cded"},
		{8159, "c33fb9016e8164b377788fdeb02a855b392a73267e7d0a4ce06e7afdbdc756ea"},
		{mostDerived, "cba3a942d3923adc5281096393efb90cd7a388796af48ea75b7c469458c8e6e2"},
	} {
		if d := told(sha.Of(derived(t, "salt", "secret", "info", x.n))); d != x.digest {
			t.Errorf("%d bytes: their digest is %s, not %s", x.n, d, x.digest)
		}
	}
}

// P3.1: salts, secrets, infos and rows of many lengths, each row in the secret of the next, so that a fault in any of them is seen in the last.
func TestChainOfDerived(t *testing.T) {
	draw := mixer(2)
	row := ""
	for n := range 200 {
		salt, secret := draw(n), draw(n*3%101)+row
		row = derived(t, salt, secret, draw(n*5%127), n*11%300+1)
	}
	if d := told(sha.Of(row)); d != "003c583ff50b0ece6be8a3e47b4cfb140f932fac75dbca14323df978fda7b19e" || len(row) != 90 {
		t.Error(d, len(row))
	}
}

// P3.1: the chapter's own words: tag by tag, each of the one ahead, the info, and its number.
func TestDerivedIsTags(t *testing.T) {
	row := derived(t, "salt", "secret", "info", mostDerived)
	under := mac.Tag("salt", "secret")
	ahead := ""
	for number := 1; number <= 255; number++ {
		ahead = mac.Tag(under, ahead+"info"+string([]byte{byte(number)}))
		if row[32*(number-1):32*number] != ahead {
			t.Fatalf("the tag of number %d is another one", number)
		}
	}
}

// P3.1: other numbers of bytes than 0 to 8160 are refused, and nothing comes with that; 0 isn't one of them.
func TestDeriveRange(t *testing.T) {
	for _, n := range []int{-1, -2, -32, -8160, math.MinInt32, math.MinInt, mostDerived + 1, mostDerived + 32, 1 << 16, 1<<16 + 32, math.MaxInt32, math.MaxInt} {
		if out, e := mac.Derive("salt", "secret", "info", n); e != api.ErrRange || out != "" {
			t.Errorf("%d bytes: error %d, %d bytes", n, e, len(out))
		}
	}
	if out, e := mac.Derive("", "", "", -1); e != api.ErrRange || out != "" {
		t.Error("of no bytes: error", e)
	}
	derived(t, "salt", "secret", "info", 0)
	derived(t, "", "", "", 0)
}

// P3.1: salt, secret and info have each a place of their own.
func TestDerivedPlaces(t *testing.T) {
	row := derived(t, "ab", "cd", "ef", 64)
	for _, x := range [][3]string{
		{"cd", "ab", "ef"}, {"ab", "ef", "cd"}, {"ef", "cd", "ab"}, {"abc", "d", "ef"}, {"ab", "cde", "f"}, {"ab", "c", "def"},
		{"", "cd", "ef"}, {"ab", "", "ef"}, {"ab", "cd", ""}, {"ab", "cd", "eg"}, {"ab", "ce", "ef"}, {"ac", "cd", "ef"}, {"ab", "cd", "ef\x01"},
	} {
		if derived(t, x[0], x[1], x[2], 64) == row {
			t.Errorf("%q derive the same bytes", x)
		}
	}
}

// P3.2: each shorter row is the beginning of the longest one.
func TestShorterIsBeginning(t *testing.T) {
	for _, x := range [][3]string{{"", "", ""}, {"salt", "secret", "info"}} {
		longest := derived(t, x[0], x[1], x[2], mostDerived)
		for n := 0; n <= mostDerived; n += 1 + n/40 {
			if derived(t, x[0], x[1], x[2], n) != longest[:n] {
				t.Fatalf("%d bytes of %q aren't the beginning", n, x)
			}
		}
		for _, n := range []int{8127, 8128, 8129, 8159} {
			if derived(t, x[0], x[1], x[2], n) != longest[:n] {
				t.Fatalf("%d bytes of %q aren't the beginning", n, x)
			}
		}
	}
}

// P3.2: and of each one between, whatever salt, secret and info are.
func TestShorterOfAny(t *testing.T) {
	draw := mixer(5)
	for k := range 12 {
		salt, secret, info := draw(k*13), draw(k*17%97), draw(k*k)
		for long := 0; long <= 140; long += 7 {
			row := derived(t, salt, secret, info, long)
			for short := 0; short < long; short += 1 + short/9 {
				if derived(t, salt, secret, info, short) != row[:short] {
					t.Fatalf("%d bytes aren't the beginning of %d", short, long)
				}
			}
		}
	}
}
