package blob_test

import (
	"slices"
	"strconv"
	"strings"
	"testing"

	"keyloft/api"
	"keyloft/blob"
)

// P12.1: a key of another length, or what is no context: ErrForm, whether the tag holds or not.
func TestNotAsked(t *testing.T) {
	draw := mixer(31)
	key, h, context := draw(32), blob.Head{Id: "k1", Version: 1, Nonce: draw(12)}, pairs("a", "1")
	b := built(t, key, h, context, "text")
	for _, b := range []string{b, flip(b, 8*len(b)-1), laidOf(h) + noughts(16)} {
		for n := range 130 {
			if n != 32 {
				refuses(t, "a key of "+strconv.Itoa(n), (key + draw(130))[:n], b, context, api.ErrForm)
			}
		}
		refuses(t, "a key of 32 runes", strings.Repeat("α", 32), b, context, api.ErrForm)
		for what, none := range noContexts() {
			refuses(t, what, key, b, none, api.ErrForm)
		}
		refuses(t, "a pair twice", key, b, append(context, context...), api.ErrForm)
		refuses(t, "neither", "", b, pairs("", ""), api.ErrForm)
	}
	opens(t, "asked", key, b, context, "text")
}

// P12.1: blobs sealed by the library's GCM; of none is more than 1024 bytes' text.
func TestOpensByTheWords(t *testing.T) {
	draw := mixer(32)
	for n := range 1100 {
		if n > 40 && n < 1000 {
			continue
		}
		key, text, context := draw(32), draw(n), pairs(draw(1+n%32), draw(n%65))
		h := blob.Head{Id: "α" + strconv.Itoa(n), Version: 1 + n%8, Nonce: draw(12)}
		beside, _ := besideOf(context)
		b := laidOf(h) + sealedOf(key, h.Nonce, laidOf(h)+beside, text)
		if n <= 1024 {
			opens(t, strconv.Itoa(n)+" bytes", key, b, context, text)
		} else {
			refuses(t, strconv.Itoa(n)+" bytes", key, b, context, api.ErrForm)
		}
	}
}

// P12.1: what lies behind a head isn't what the key sealed.
func TestNotSealed(t *testing.T) {
	draw := mixer(33)
	key, h := draw(32), blob.Head{Id: "k1", Version: 1, Nonce: draw(12)}
	for _, n := range []int{16, 17, 31, 32, 33, 1039, 1040} {
		for _, behind := range []string{noughts(n), full(n), draw(n), draw(n)} {
			for _, context := range [][]api.Pair{nil, pairs("a", "1"), largest(8)} {
				refuses(t, strconv.Itoa(n)+" bytes", key, laidOf(h)+behind, context, api.ErrCorrupt)
			}
		}
	}
}

// P12.1: sealed by the key, but with something else beside than the head and the context's text, or with another nonce than the head's.
func TestOtherBeside(t *testing.T) {
	draw := mixer(34)
	key, h, context := draw(32), blob.Head{Id: "k1", Version: 1, Nonce: draw(12)}, pairs("a", "1")
	head := laidOf(h)
	beside, _ := besideOf(context)
	opens(t, "sealed rightly", key, head+sealedOf(key, h.Nonce, head+beside, "text"), context, "text")
	for what, other := range map[string]string{
		"nothing":           "",
		"the head alone":    head,
		"the context alone": beside,
		"the context ahead": beside + head,
		"a nought behind":   head + beside + "\x00",
		"a nought ahead":    "\x00" + head + beside,
		"a nought between":  head + "\x00" + beside,
		"no mark":           head[2:] + beside,
		"no nonce":          head[:len(head)-12] + beside,
		"no version":        "K1\x02k1" + h.Nonce + beside,
		"no lengths":        head + "a1",
		"both twice":        head + beside + head + beside,
	} {
		refuses(t, "beside: "+what, key, head+sealedOf(key, h.Nonce, other, "text"), context, api.ErrCorrupt)
	}
	for what, nonce := range map[string]string{"noughts": noughts(12), "drawn": draw(12), "turned": h.Nonce[1:] + h.Nonce[:1]} {
		refuses(t, "a nonce of "+what, key, head+sealedOf(key, nonce, head+beside, "text"), context, api.ErrCorrupt)
	}
}

// P12.2: no blob with a bit turned is opened: where it begins with a right head still, its tag doesn't hold.
func TestTurnedBits(t *testing.T) {
	draw := mixer(35)
	for _, id := range []string{"a", "k1", "α-2", strings.Repeat("ω", 32)} {
		for _, n := range []int{0, 1, 16, 33} {
			key, text, context := draw(32), draw(n), pairs("a", "1", "b", draw(64))
			h := blob.Head{Id: id, Version: 1 + n%8, Nonce: draw(12)}
			b := built(t, key, h, context, text)
			for bit := range 8 * len(b) {
				turned := flip(b, bit)
				want := api.ErrCorrupt
				if _, e := parsedOf(turned); e != api.OK {
					want = api.ErrForm
				}
				refuses(t, "bit "+strconv.Itoa(bit), key, turned, context, want)
				if bit >= 8*(len(laidOf(h))-12) && want != api.ErrCorrupt {
					t.Errorf("bit %d isn't one of the nonce, or behind it", bit)
				}
			}
			for bit := range 256 {
				refuses(t, "bit of the key "+strconv.Itoa(bit), flip(key, bit), b, context, api.ErrCorrupt)
			}
			opens(t, "not turned", key, b, context, text)
		}
	}
}

// P12.2: bits of the longest blob.
func TestTurnedBitsOfTheLargest(t *testing.T) {
	draw := mixer(36)
	key, text, h := draw(32), draw(1024), blob.Head{Id: strings.Repeat("ω", 32), Version: 8, Nonce: draw(12)}
	b := built(t, key, h, largest(8), text)
	for bit := 8 * len(laidOf(h)); bit < 8*len(b); bit += 37 {
		refuses(t, "bit "+strconv.Itoa(bit), key, flip(b, bit), largest(8), api.ErrCorrupt)
	}
	opens(t, "not turned", key, b, largest(8), text)
}

// P12.2: another right head ahead of what was sealed.
func TestOtherHeads(t *testing.T) {
	draw := mixer(37)
	key, h := draw(32), blob.Head{Id: "k1", Version: 1, Nonce: draw(12)}
	b := built(t, key, h, nil, "text")
	sealed := b[len(laidOf(h)):]
	others := []blob.Head{{Id: "k1", Version: 1, Nonce: draw(12)}}
	for _, id := range []string{"k", "k2", "k11", "1k", "a1", "α", strings.Repeat("k", 32)} {
		others = append(others, blob.Head{Id: id, Version: 1, Nonce: h.Nonce})
	}
	for version := 2; version <= 8; version++ {
		others = append(others, blob.Head{Id: "k1", Version: version, Nonce: h.Nonce})
	}
	for _, other := range others {
		parses(t, "another head", laidOf(other)+sealed, other)
		refuses(t, "another head", key, laidOf(other)+sealed, nil, api.ErrCorrupt)
	}
	opens(t, "its own", key, laidOf(h)+sealed, nil, "text")
}

// P12.2: each context opens what was built with it, and no other one does.
func TestOtherContexts(t *testing.T) {
	draw := mixer(38)
	key, h := draw(32), blob.Head{Id: "k1", Version: 1, Nonce: draw(12)}
	all := [][]api.Pair{
		nil, pairs("a", ""), pairs("a", "1"), pairs("a", "2"), pairs("a", "11"), pairs("b", "1"), pairs("A", "1"), pairs("1", "a"),
		pairs("a", "1", "b", "2"), pairs("a", "2", "b", "1"), pairs("a", "1", "b", ""), pairs("a", "1", "c", "2"), pairs("ab", "1"),
		pairs("a", "b1"), pairs("a", "1\x01b\x012"), pairs("a\x011", "2"), pairs("a\x00", "1"), pairs("a", "1\x00"), pairs("α", "1"),
		largest(7), largest(8), largest(8)[1:], largest(8)[:1], pairs(strings.Repeat("a", 32), strings.Repeat("A", 63)),
		pairs("a", "1", "b", "2", "c", "3"), pairs("\xff", ""), pairs("\x00", ""), pairs("\x01", "\x01"),
	}
	for i, own := range all {
		b := built(t, key, h, own, "text")
		for j, other := range all {
			if i == j {
				opens(t, "its own context", key, b, other, "text")
			} else {
				refuses(t, strconv.Itoa(j)+" for the context "+strconv.Itoa(i), key, b, other, api.ErrCorrupt)
			}
		}
	}
}

// P12.2: a context's order counts neither for Build nor for Open.
func TestOrders(t *testing.T) {
	draw := mixer(39)
	key, h := draw(32), blob.Head{Id: "k1", Version: 1, Nonce: draw(12)}
	all := [][]api.Pair{nil}
	for _, p := range pairs("a", "1", "aa", "", "b", "2", "\xff", "a") {
		var longer [][]api.Pair
		for _, l := range all {
			for at := range len(l) + 1 {
				longer = append(longer, slices.Insert(slices.Clone(l), at, p))
			}
		}
		all = longer
	}
	b := built(t, key, h, all[0], "text")
	for _, order := range all {
		if built(t, key, h, order, "text") != b {
			t.Errorf("%q: another blob", order)
		}
		opens(t, "another order", key, b, order, "text")
		refuses(t, "a pair less", key, b, order[1:], api.ErrCorrupt)
	}
	if len(all) != 24 {
		t.Errorf("%d orders", len(all))
	}
	eight := largest(8)
	b = built(t, key, h, eight, "text")
	slices.Reverse(eight)
	opens(t, "eight, the other way round", key, b, eight, "text")
}

// P12.2: bits of a context, each turned, of keys and of values.
func TestTurnedContexts(t *testing.T) {
	draw := mixer(40)
	key, h := draw(32), blob.Head{Id: "k1", Version: 1, Nonce: draw(12)}
	p := api.Pair{Key: draw(32), Value: draw(64)}
	others := largest(2)
	b := built(t, key, h, append(others, p), "text")
	for bit := range 8 * 32 {
		refuses(t, "bit of a key "+strconv.Itoa(bit), key, b, append(others[:2:2], api.Pair{Key: flip(p.Key, bit), Value: p.Value}), api.ErrCorrupt)
	}
	for bit := range 8 * 64 {
		refuses(t, "bit of a value "+strconv.Itoa(bit), key, b, append(others[:2:2], api.Pair{Key: p.Key, Value: flip(p.Value, bit)}), api.ErrCorrupt)
	}
	opens(t, "not turned", key, b, []api.Pair{p, others[1], others[0]}, "text")
}
