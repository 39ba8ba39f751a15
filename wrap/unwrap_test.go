package wrap_test

import (
	"strconv"
	"testing"

	"keyloft/api"
	"keyloft/gcm"
	"keyloft/mac"
)

// flip: the text with one bit turned round.
func flip(s string, bit int) string {
	b := []byte(s)
	b[bit/8] ^= 1 << (bit % 8)
	return string(b)
}

// P5.1: 60 bytes that nobody wrapped.
func TestNotWrapped(t *testing.T) {
	draw := mixer(21)
	under, key := draw(32), draw(32)
	for _, name := range []string{"", "name", draw(64)} {
		refuses(t, "noughts", under, name, noughts(60), api.ErrCorrupt)
		refuses(t, "noughts under noughts", noughts(32), name, noughts(60), api.ErrCorrupt)
		for range 50 {
			refuses(t, "any bytes", under, name, draw(60), api.ErrCorrupt)
		}
		w := wrapped(t, under, name, key)
		for n := 1; n < 60; n++ {
			refuses(t, "turned by "+strconv.Itoa(n), under, name, w[n:]+w[:n], api.ErrCorrupt)
		}
		refuses(t, "the key itself in it", under, name, w[:12]+key+w[44:], api.ErrCorrupt)
	}
}

// P5.1: a key sealed as it should be, but with another nonce than its own, isn't what Wrap tells of any key.
func TestOtherNonces(t *testing.T) {
	draw := mixer(22)
	for _, n := range []int{0, 1, 20, 64} {
		under, name, key := draw(32), draw(n), draw(32)
		own := wrapped(t, under, name, key)[:12]
		unwraps(t, under, name, sealedWith(under, own, name, key), key)
		other := draw(32)
		for what, nonce := range map[string]string{
			"noughts":                noughts(12),
			"any nonce":              draw(12),
			"another key's":          wrapped(t, under, name, other)[:12],
			"another name's":         wrapped(t, under, "other name", key)[:12],
			"that under another key": wrapped(t, other, name, key)[:12],
			"without a nought":       mac.Tag(under, name, key)[:12],
			"of the key alone":       mac.Tag(under, key)[:12],
			"of the name alone":      mac.Tag(under, name)[:12],
			"the other way round":    mac.Tag(key, name, "\x00", under)[:12],
			"the tag's end":          mac.Tag(under, name, "\x00", key)[20:],
		} {
			refuses(t, "the nonce "+what, under, name, sealedWith(under, nonce, name, key), api.ErrCorrupt)
		}
		for bit := range 96 {
			refuses(t, "the nonce, bit "+strconv.Itoa(bit), under, name, sealedWith(under, flip(own, bit), name, key), api.ErrCorrupt)
		}
	}
}

// P5.1: what is sealed with the key's own nonce, but with another name beside, isn't it either.
func TestOtherBeside(t *testing.T) {
	draw := mixer(23)
	under, key := draw(32), draw(32)
	for _, name := range []string{"", "name", draw(64)} {
		own := wrapped(t, under, name, key)[:12]
		for _, beside := range []string{"", "nam", "name\x00", name + "\x00", name + "\x00" + key, draw(64)} {
			if beside == name {
				continue
			}
			sealed, e := gcm.Seal(under, own, beside, key)
			if e != api.OK {
				t.Fatal(e)
			}
			refuses(t, "with another name beside", under, name, own+sealed, api.ErrCorrupt)
		}
	}
}

// P5.2: each bit counts, of what is wrapped, of the key above and of the name.
func TestTurnedBits(t *testing.T) {
	draw := mixer(24)
	for _, n := range []int{0, 1, 16, 31, 64} {
		under, name, key := draw(32), draw(n), draw(32)
		w := wrapped(t, under, name, key)
		for bit := range 8 * len(w) {
			refuses(t, "wrapped bit "+strconv.Itoa(bit), under, name, flip(w, bit), api.ErrCorrupt)
		}
		for bit := range 8 * len(under) {
			refuses(t, "bit of the key above "+strconv.Itoa(bit), flip(under, bit), name, w, api.ErrCorrupt)
		}
		for bit := range 8 * len(name) {
			refuses(t, "bit of the name "+strconv.Itoa(bit), under, flip(name, bit), w, api.ErrCorrupt)
		}
		unwraps(t, under, name, w, key)
	}
}

// P5.2: a name counts whole, with the noughts at its end, and the key that was wrapped isn't the one above.
func TestOtherNames(t *testing.T) {
	draw := mixer(25)
	under, key := draw(32), draw(32)
	names := []string{"", "\x00", "\x00\x00", "a", "a\x00", "\x00a", "A", "ab", "ba", "α", draw(63), draw(64)}
	for _, name := range names {
		w := wrapped(t, under, name, key)
		for _, other := range names {
			if other != name {
				refuses(t, strconv.Quote(name)+" as "+strconv.Quote(other), under, other, w, api.ErrCorrupt)
			}
		}
		refuses(t, "under itself", key, name, w, api.ErrCorrupt)
		unwraps(t, under, name, w, key)
	}
}

// P5.2: all keys are unwrapped, the one above, too, and keys that differ in a bit are wrapped to unlike bytes with unlike nonces.
func TestKeysOfOneBit(t *testing.T) {
	under := mixer(26)(32)
	unwraps(t, under, "name", wrapped(t, under, "name", under), under)
	nonces, bodies := map[string]bool{}, map[string]bool{}
	for bit := range 256 {
		key := flip(noughts(32), bit)
		w := wrapped(t, under, "name", key)
		unwraps(t, under, "name", w, key)
		nonces[w[:12]], bodies[w[12:44]] = true, true
	}
	if len(nonces) != 256 || len(bodies) != 256 {
		t.Errorf("%d nonces and %d bodies of 256 keys", len(nonces), len(bodies))
	}
}

// P5.1: what a call answers hangs on its arguments alone.
func TestWrappedAgain(t *testing.T) {
	draw := mixer(27)
	under, name, key := draw(32), draw(9), draw(32)
	w := wrapped(t, under, name, key)
	for range 3 {
		wrapped(t, draw(32), draw(5), draw(32))
		refuses(t, "under a key of others", draw(32), name, w, api.ErrCorrupt)
		if wrapped(t, under, name, key) != w {
			t.Error("wrapped again it is something else")
		}
		unwraps(t, under, name, w, key)
	}
}
