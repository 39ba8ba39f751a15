package sha_test

import (
	"strings"
	"testing"

	"keyloft/sha"
)

// cuts: a text in pieces of at most so many bytes, some of them empty.
func cuts(text string, most int, draw func(int) string) []string {
	var pieces []string
	for len(text) > 0 {
		n := min(int(draw(1)[0])%(most+1), len(text))
		pieces = append(pieces, text[:n])
		text = text[n:]
	}
	return pieces
}

// P2.1: Add answers the tally that it was asked of, also for no bytes, so that all can be called in a row.
func TestAddAnswersItsTally(t *testing.T) {
	tally := sha.New()
	for n, s := range []string{"", "a", "", strings.Repeat("b", 63), strings.Repeat("c", 64), strings.Repeat("d", 1000)} {
		if tally.Add(s) != tally {
			t.Errorf("piece %d: another tally", n)
		}
	}
	if n := tally.Len(); n != 1128 {
		t.Errorf("%d bytes, not 1128", n)
	}
	row := sha.New().Add("a").Add("").Add("b").Add("c")
	if row.Len() != 3 || row.Sum() != sha.Of("abc") {
		t.Errorf("%d bytes, %x", row.Len(), row.Sum())
	}
}

// P2.1, P0.1: Sum and Len ask only; more may come behind them, wherever in a block the tally stands.
func TestSumChangesNothing(t *testing.T) {
	text := mixer(1)(200)
	tally := sha.New()
	for n := range len(text) {
		want := sha.Of(text[:n])
		for range 3 {
			if s := tally.Sum(); s != want || len(s) != 32 {
				t.Fatalf("%d bytes: %x, not %x", n, s, want)
			}
			if tally.Len() != n {
				t.Fatalf("%d bytes, not %d", tally.Len(), n)
			}
		}
		tally.Add(text[n : n+1])
	}
}

// P2.1: a tally is of its own bytes alone.
func TestTalliesAreApart(t *testing.T) {
	a, b := sha.New(), sha.New()
	if a == b {
		t.Fatal("one tally twice")
	}
	draw := mixer(2)
	var ofA, ofB string
	for n := range 100 {
		s := draw(n)
		a.Add(s)
		ofA += s
		s = draw(100 - n)
		b.Add(s)
		ofB += s
		if c := sha.New(); c.Len() != 0 || told(c.Sum()) != ofNone {
			t.Fatalf("a new tally: %d bytes, %x", c.Len(), c.Sum())
		}
		if a.Sum() != sha.Of(ofA) || b.Sum() != sha.Of(ofB) || a.Len() != len(ofA) || b.Len() != len(ofB) {
			t.Fatalf("after %d pieces a tally tells of the other's", n)
		}
	}
}

// P2.1: Of takes the parts one behind the other, as they stand, none and empty ones too.
func TestOfParts(t *testing.T) {
	for _, parts := range [][]string{nil, {}, {""}, {"", "", ""}} {
		if d := told(sha.Of(parts...)); d != ofNone {
			t.Errorf("%d empty parts: %s", len(parts), d)
		}
	}
	abc := sha.Of("abc")
	for _, parts := range [][]string{{"a", "bc"}, {"ab", "c"}, {"a", "b", "c"}, {"", "abc"}, {"abc", ""}, {"a", "", "bc"}, {"", "a", "", "b", "", "c", ""}} {
		if d := sha.Of(parts...); d != abc {
			t.Errorf("%q: %x, not %x", parts, d, abc)
		}
	}
	seen := map[string]string{abc: "abc"}
	for _, parts := range [][]string{{"c", "b", "a"}, {"bc", "a"}, {"a", "bc", "\x00"}, {"a", "\x00", "bc"}, {"a,", "bc"}, {"a"}, {"bc"}, {"abc", "abc"}} {
		d, text := sha.Of(parts...), strings.Join(parts, "|")
		if old, ok := seen[d]; ok {
			t.Errorf("%q and %q: one digest", old, text)
		}
		seen[d] = text
	}
}

// Rule 3: the parts are not changed, nor the room behind them.
func TestOfLeavesItsParts(t *testing.T) {
	parts := []string{"a", "", "b", "spare", "room"}
	if sha.Of(parts[:3]...) != sha.Of("ab") {
		t.Error("not of the three parts")
	}
	if s := strings.Join(parts, ","); s != "a,,b,spare,room" {
		t.Error(s)
	}
}

// P2.2: all ways to cut a text of more than two blocks into three pieces.
func TestThreePieces(t *testing.T) {
	text := mixer(3)(137)
	want := sha.Of(text)
	for i := range len(text) + 1 {
		for j := i; j <= len(text); j++ {
			if d := sha.Of(text[:i], text[i:j], text[j:]); d != want {
				t.Fatalf("cut at %d and %d: %x, not %x", i, j, d, want)
			}
			tally := sha.New().Add(text[:i]).Add(text[i:j]).Add(text[j:])
			if tally.Sum() != want || tally.Len() != len(text) {
				t.Fatalf("cut at %d and %d: %x, not %x", i, j, tally.Sum(), want)
			}
		}
	}
}

// P2.2: many pieces, small ones and such as have several blocks.
func TestManyPieces(t *testing.T) {
	draw := mixer(4)
	for n := range 400 {
		text := draw(n * 7)
		want := sha.Of(text)
		for _, most := range []int{1, 3, 63, 64, 65, 200, 255} {
			pieces := cuts(text, most, draw)
			if d := sha.Of(pieces...); d != want {
				t.Fatalf("%d bytes in %d pieces: %x, not %x", len(text), len(pieces), d, want)
			}
			tally := sha.New()
			for _, s := range pieces {
				tally.Add(s)
			}
			if tally.Sum() != want || tally.Len() != len(text) {
				t.Fatalf("%d bytes added in %d pieces: %x, not %x", len(text), len(pieces), tally.Sum(), want)
			}
		}
	}
}
