package ring_test

import (
	"strconv"
	"strings"
	"testing"

	"keyloft/api"
	"keyloft/ring"
)

func backingOf(t *testing.T, r *ring.Ring, p place, draw string) string {
	t.Helper()
	w, e := r.Backing(p.n, p.domain, p.id, p.version, draw)
	if e != api.OK || len(w) != 60 {
		t.Fatalf("Backing %d of %q under %d: %d, with %d bytes", p.version, p.id, p.n, e, len(w))
	}
	return w
}

// tells: Key answers the key.
func tells(t *testing.T, r *ring.Ring, p place, wrapped, key string) {
	t.Helper()
	if k, e := r.Key(p.n, p.domain, p.id, p.version, wrapped); e != api.OK || k != key {
		t.Fatalf("Key %d of %q under %d: %d, %x, not %x", p.version, p.id, p.n, e, k, key)
	}
}

// refusesKey: Key answers the error, and no key.
func refusesKey(t *testing.T, what string, r *ring.Ring, p place, wrapped string, want api.Errno) {
	t.Helper()
	if k, e := r.Key(p.n, p.domain, p.id, p.version, wrapped); e != want || k != "" {
		t.Errorf("Key, %s: %d, not %d, with %d bytes", what, e, want, len(k))
	}
}

// refusesPlace: both Backing and Key answer the error, and nothing else.
func refusesPlace(t *testing.T, what string, r *ring.Ring, p place, wrapped string, want api.Errno) {
	t.Helper()
	if w, e := r.Backing(p.n, p.domain, p.id, p.version, "draw"); e != want || w != "" {
		t.Errorf("Backing, %s: %d, not %d, with %d bytes", what, e, want, len(w))
	}
	refusesKey(t, what, r, p, wrapped, want)
}

// known: a backing key, all of it.
type known struct {
	root, of, draw   string // what the domain and the backing key are drawn of
	at               place
	above, row, bare string // what is wrapped, and the backing key, told
}

// knownKeys: made by other programs of HKDF, HMAC and GCM.
func knownKeys() []known {
	return []known{
		{noughts(32), "", "", place{n: 1, id: "", version: 1},
			"2355b1a01c1ff85b3ceeb3a6fb6f506203c5f728f708743d9ad12abd3b793e34c2e2d07f225218a0cc5047fa7e438980d159bdd5bebd17fe57a3a9c0",
			"36adf076bdf85ab4d68d23c5e53b0c6194a4032f97f77102a5406e8397ace16343111e92cd9ae9908d4221ca12ccd9698e31c80aa1042071f8358d5e",
			"c934aafcc00d6ea63396944e4d52db60ee3b73cf767b246397627866b4cd7014"},
		{counted(32), "draw", "another draw", place{n: 1, id: "k1", version: 1},
			"8f9b72669d21bdb25888e398a1af485df09eecce83be791aa226848031d34f746248769f4d6060938aeee7c7a12c84f97c13fd519de2343650c9bcbb",
			"19f54d4ff295f6a18ab9be6493f92271c7df4ede0b429bae3048bcf0635105c25b43e41d94ab2747ef66d3750e55978c03e35d63853d3ba0aff1cb84",
			"d0569a33b40184962333abfa8aab6212df292bab7876286b246e52641231aa61"},
		{counted(32), "draw", "another draw", place{n: 8, id: "k1", version: 8},
			"1e6108ad0c025044eab6456f86bd1f4e6cb29d8c02f3745857b4aa31a34c1319f9ef4569049ca86629597a06d1b91d6d2a9fc06b8d673a0f4c6b363c",
			"505521776db89a77adfe7197b504f74fb17c6c2cedb53946147c93678a871385248f830dfe7bee6126728d64acd0d1a33ca204dd265c362d91bb2372",
			"43161682a7ef5937c502da44c723346e064c5a7a77b132da0260725be66ed5ff"},
		{full(32), noughts(32), "\x00", place{n: 5, id: full(32), version: 3},
			"546e0e5c64dbf3c03682a66f401e4b4f4a5e29eddc576bbddb634762eeac4bbf4c11bafe9a46d928fd70d68a9d6d3318000a4bb786ce83c5af06f98b",
			"27deb25f956185eb4c28bdc781218572894212cc8fc775fee2487d96164c533dc975ec79cb15c0981bc1a2b5df0ccba5f4d1ddf91c645825f6c1c268",
			"94d74806e71a1539710bbf8b57fa55a2e1e3a4368231c1c5038b81dd19d3d481"},
		{counted(32), "draw", "draw", place{n: 2, id: "αβγ", version: 7},
			"f5672940335b730237918821a002abd9bc4cbf9767b30a15306ea0e9841c1af2711afff77b2725a76f884a3aa850b81800bb0ab912a203cf18511654",
			"6937744c1ba973a83808464067ec8ba6a1c533f24feb57ffd447cf44a73b35df17da4b7a56cc4b01d681f675f28698240d6e243ae02a6f6a60c68756",
			"8edd398f5b37da6639188d4a75521b62cd83da8a3c01b6f0179af0bd9a913e45"},
	}
}

// P11.2: known answers.
func TestKnownKeys(t *testing.T) {
	for _, x := range knownKeys() {
		r := ringOf(t, x.root)
		p := x.at
		p.domain = domainOf(t, r, p.n, x.of)
		row := backingOf(t, r, p, x.draw)
		if told(p.domain) != x.above || told(row) != x.row {
			t.Errorf("%d of %q under %d: %s under %s", p.version, p.id, p.n, told(row), told(p.domain))
		}
		if key, e := r.Key(p.n, p.domain, p.id, p.version, row); e != api.OK || told(key) != x.bare {
			t.Errorf("%d of %q under %d: %d, %s", p.version, p.id, p.n, e, told(key))
		}
	}
}

// P11.2: ids of all lengths to 32 bytes, whatever bytes they are, all versions and all domains' numbers.
func TestBackingKeys(t *testing.T) {
	draw := mixer(21)
	root := draw(32)
	r := ringOf(t, root)
	ids := []string{noughts(32), full(32), strings.Repeat("α", 16), strings.Repeat("𝛼", 8), "\x00", "\x01", "k1", "k1\x01"}
	for n := range 33 {
		ids = append(ids, draw(n))
	}
	rows, keys := map[string]bool{}, map[string]bool{}
	for i, id := range ids {
		for version := 1; version <= 8; version++ {
			n, d := 1+(i+version)%8, draw(i)
			p := place{n, domainOf(t, r, n, "of"), id, version}
			row := backingOf(t, r, p, d)
			if w, _ := p.backing(root, d); row != w {
				t.Errorf("%d of %q under %d: %x, not %x", version, id, n, row, w)
			}
			key := keyOf("backing", d, id+string([]byte{byte(version)}))
			tells(t, r, p, row, key)
			rows[row], keys[key] = true, true
		}
	}
	if len(rows) != 8*len(ids) || len(keys) != 8*len(ids) {
		t.Errorf("%d rows and %d keys of %d", len(rows), len(keys), 8*len(ids))
	}
}

// P11.2: a backing key is of its id, version and draw alone, its row of the domain's key, too; but not of the root.
func TestKeysUnderAll(t *testing.T) {
	seen := map[string]bool{}
	for _, root := range []string{noughts(32), counted(32)} {
		r := ringOf(t, root)
		for n := 1; n <= 8; n++ {
			for _, of := range []string{"", "draw", counted(40)} {
				p := place{n, domainOf(t, r, n, of), "k1", 2}
				row := backingOf(t, r, p, "draw")
				tells(t, r, p, row, keyOf("backing", "draw", "k1\x02"))
				seen[row] = true
			}
		}
	}
	if len(seen) != 8*3 {
		t.Errorf("%d rows", len(seen))
	}
}

// P11.2: draws of all lengths make keys of their own.
func TestDraws(t *testing.T) {
	draw := mixer(22)
	r := ringOf(t, draw(32))
	p := place{3, domainOf(t, r, 3, "of"), "k1", 1}
	seen := map[string]bool{}
	draws := []string{draw(1000), draw(70000), noughts(64), noughts(66)}
	for n := range 140 {
		draws = append(draws, draw(n))
	}
	for _, d := range draws {
		row := backingOf(t, r, p, d)
		tells(t, r, p, row, keyOf("backing", d, "k1\x01"))
		seen[row] = true
	}
	if len(seen) != len(draws) {
		t.Errorf("%d rows of %d draws", len(seen), len(draws))
	}
}

// P11.2: wrong numbers, both, of the domain and of the version; they go ahead of all that is wrong behind them.
func TestWrongNumbers(t *testing.T) {
	r := ringOf(t, counted(32))
	p := place{1, domainOf(t, r, 1, "of"), "k1", 1}
	row := backingOf(t, r, p, "draw")
	for _, wrong := range wrongNumbers() {
		for _, id := range []string{"k1", noughts(33)} {
			for _, domain := range []string{p.domain, "", noughts(60)} {
				what := "the number " + strconv.Itoa(wrong)
				refusesPlace(t, what+" of the domain", r, place{wrong, domain, id, 1}, row, api.ErrRange)
				refusesPlace(t, what+" of the version", r, place{1, domain, id, wrong}, row, api.ErrRange)
				refusesPlace(t, what+" of both", r, place{wrong, domain, id, wrong}, row, api.ErrRange)
				refusesKey(t, what+", nothing wrapped", r, place{wrong, domain, id, 1}, "", api.ErrRange)
				refusesKey(t, what+", nothing wrapped", r, place{1, domain, id, wrong}, "", api.ErrRange)
			}
		}
	}
}

// P11.2: ids of more than 32 bytes, however few their runes; whether a domain is right isn't asked of them.
func TestLongIds(t *testing.T) {
	draw := mixer(23)
	r := ringOf(t, draw(32))
	p := place{2, domainOf(t, r, 2, "of"), draw(32), 8}
	row := backingOf(t, r, p, "draw")
	for _, id := range []string{p.id + "\x00", noughts(33), draw(64), strings.Repeat("α", 17), strings.Repeat("𝛼", 9), draw(62), draw(63), draw(70000)} {
		for _, domain := range []string{p.domain, "", noughts(60), p.domain[1:]} {
			what := "an id of " + strconv.Itoa(len(id))
			refusesPlace(t, what, r, place{2, domain, id, 8}, row, api.ErrLong)
			refusesKey(t, what+", nothing wrapped", r, place{2, domain, id, 8}, "", api.ErrLong)
		}
	}
}

// P11.2: rows of another length than 60, of domains, which go ahead, and of backing keys.
func TestWrongRows(t *testing.T) {
	draw := mixer(24)
	r := ringOf(t, draw(32))
	p := place{4, domainOf(t, r, 4, "of"), "k1", 3}
	row := backingOf(t, r, p, "draw")
	for n := range 130 {
		if n == 60 {
			continue
		}
		what := strconv.Itoa(n) + " bytes"
		refusesPlace(t, "a domain of "+what, r, place{4, (p.domain + draw(130))[:n], "k1", 3}, row, api.ErrForm)
		refusesKey(t, "a domain of "+what+", nothing of 60", r, place{4, draw(n), "k1", 3}, noughts(60), api.ErrForm)
		refusesKey(t, "a row of "+what, r, p, (row + draw(130))[:n], api.ErrForm)
		refusesKey(t, "a row of "+what+" under none", r, place{4, noughts(60), "k1", 3}, draw(n), api.ErrCorrupt)
	}
	tells(t, r, p, row, keyOf("backing", "draw", "k1\x03"))
}

// P11.2: 60 bytes that are no domain's, of this number.
func TestOtherDomains(t *testing.T) {
	draw := mixer(25)
	root := draw(32)
	r := ringOf(t, root)
	p := place{5, domainOf(t, r, 5, "of"), "k1", 1}
	row := backingOf(t, r, p, "draw")
	others := map[string]string{
		"noughts":         noughts(60),
		"any bytes":       draw(60),
		"a backing key":   row,
		"another root's":  domainOf(t, ringOf(t, draw(32)), 5, "of"),
		"turned":          p.domain[1:] + p.domain[:1],
		"a bare name":     wrappedOf(root, "d", draw(32)),
		"no name":         wrappedOf(root, "", draw(32)),
		"a longer name":   wrappedOf(root, "d\x00\x00\x00\x05\x00", draw(32)),
		"the lowest byte": wrappedOf(root, "d\x05", draw(32)),
		"lowest first":    wrappedOf(root, "d\x05\x00\x00\x00", draw(32)),
		"a backing name":  wrappedOf(root, "b\x00\x00\x00\x05", draw(32)),
		"under its own":   wrappedOf(keyOf("domain", "of", "\x00\x00\x00\x05"), "d\x00\x00\x00\x05", draw(32)),
	}
	for n := 1; n <= 8; n++ {
		if n != 5 {
			others["number "+strconv.Itoa(n)] = domainOf(t, r, n, "of")
			refusesPlace(t, "asked for as "+strconv.Itoa(n), r, place{n, p.domain, "k1", 1}, row, api.ErrCorrupt)
		}
	}
	for bit := range 480 {
		others["bit "+strconv.Itoa(bit)] = flip(p.domain, bit)
	}
	for what, domain := range others {
		refusesPlace(t, what, r, place{5, domain, "k1", 1}, row, api.ErrCorrupt)
		refusesKey(t, what+", nothing wrapped", r, place{5, domain, "k1", 1}, "", api.ErrCorrupt)
	}
	tells(t, r, p, row, keyOf("backing", "draw", "k1\x01"))
}

// P11.2: any key that stands under the root with the domain's name is the domain's, whatever draw it is of.
func TestDomainsOfNoDraw(t *testing.T) {
	draw := mixer(26)
	root := draw(32)
	r := ringOf(t, root)
	for _, above := range []string{noughts(32), root, draw(32)} {
		p := place{6, wrappedOf(root, "d\x00\x00\x00\x06", above), "k1", 7}
		tells(t, r, p, backingOf(t, r, p, "draw"), keyOf("backing", "draw", "k1\x07"))
		tells(t, r, p, wrappedOf(above, "bk1\x07", root), root)
	}
}

// P11.2: 60 bytes that are no backing key's, of this id and version, under this domain.
func TestOtherKeys(t *testing.T) {
	draw := mixer(27)
	root := draw(32)
	r := ringOf(t, root)
	p := place{7, domainOf(t, r, 7, "of"), "k1", 2}
	above := keyOf("domain", "of", "\x00\x00\x00\x07")
	row := backingOf(t, r, p, "draw")
	others := map[string]string{
		"noughts":           noughts(60),
		"any bytes":         draw(60),
		"the domain":        p.domain,
		"a domain's name":   wrappedOf(above, "dk1\x02", draw(32)),
		"no mark":           wrappedOf(above, "k1\x02", draw(32)),
		"no version":        wrappedOf(above, "bk1", draw(32)),
		"a version's digit": wrappedOf(above, "bk12", draw(32)),
		"4 bytes":           wrappedOf(above, "bk1\x00\x00\x00\x02", draw(32)),
		"the version ahead": wrappedOf(above, "b\x02k1", draw(32)),
		"under the root":    wrappedOf(root, "bk1\x02", draw(32)),
		"of another draw's": backingOf(t, r, place{7, domainOf(t, r, 7, "other"), "k1", 2}, "draw"),
		"of another number": backingOf(t, r, place{8, domainOf(t, r, 8, "of"), "k1", 2}, "draw"),
	}
	for bit := range 480 {
		others["bit "+strconv.Itoa(bit)] = flip(row, bit)
	}
	for what, other := range others {
		refusesKey(t, what, r, p, other, api.ErrCorrupt)
	}
	tells(t, r, p, row, keyOf("backing", "draw", "k1\x02"))
	refusesKey(t, "of another root", ringOf(t, draw(32)), p, row, api.ErrCorrupt)
}

// P11.2: a key of another version, or of another id, also where one's end and the other's version are alike.
func TestOtherVersions(t *testing.T) {
	r := ringOf(t, counted(32))
	domain := domainOf(t, r, 1, "of")
	var all []place
	for _, id := range []string{"", "\x01", "\x01\x01", "k", "k1", "k1\x01", "k1\x02", "K1", "k10", noughts(31), noughts(32)} {
		for version := 1; version <= 8; version++ {
			all = append(all, place{1, domain, id, version})
		}
	}
	for _, p := range all {
		row := backingOf(t, r, p, "draw")
		for _, q := range all {
			if q != p {
				refusesKey(t, strconv.Quote(p.id)+" as "+strconv.Quote(q.id), r, q, row, api.ErrCorrupt)
			}
		}
	}
}
