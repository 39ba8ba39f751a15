package blob_test

import (
	"strconv"
	"strings"
	"testing"

	"keyloft/blob"
)

// P12.1: a head's bytes, told one by one; what lies behind it isn't asked whether it is sealed.
func TestKnownHeads(t *testing.T) {
	behind := mixer(21)(16)
	for head, want := range map[string]blob.Head{
		"K1\x01a\x01" + noughts(12):                                      {Id: "a", Version: 1, Nonce: noughts(12)},
		"K1\x02k1\x08" + "K1\x02k1\x08-nonce":                            {Id: "k1", Version: 8, Nonce: "K1\x02k1\x08-nonce"},
		"K1\x05key-1\x02twelve bytes":                                    {Id: "key-1", Version: 2, Nonce: "twelve bytes"},
		"K1\x03\xce\xb12\x05" + full(12):                                 {Id: "α2", Version: 5, Nonce: full(12)},
		"K1\x20" + strings.Repeat("9", 32) + "\x07" + counted(12):        {Id: strings.Repeat("9", 32), Version: 7, Nonce: counted(12)},
		"K1\x40" + strings.Repeat("\xcf\x89", 32) + "\x03" + counted(12): {Id: strings.Repeat("ω", 32), Version: 3, Nonce: counted(12)},
	} {
		parses(t, strconv.Quote(head), head+behind, want)
		parses(t, strconv.Quote(head)+", and noughts", head+noughts(1040), want)
	}
}

// P12.1: a head has 16 to 1040 bytes behind it, whatever bytes they are.
func TestLengthsOfBlobs(t *testing.T) {
	long := mixer(22)(70000)
	for _, h := range []blob.Head{
		{Id: "a", Version: 1, Nonce: noughts(12)},
		{Id: strings.Repeat("ω", 32), Version: 8, Nonce: full(12)},
	} {
		head := laidOf(h)
		for n := range 1300 {
			if n >= 16 && n <= 1040 {
				parses(t, strconv.Itoa(n)+" behind", head+long[:n], h)
			} else {
				isNone(t, strconv.Itoa(n)+" behind", head+long[:n])
			}
		}
		isNone(t, "70000 behind", head+long)
	}
}

// P12.1: what is cut short at its front or at its end begins with no head, or has too little behind it.
func TestCutBlobs(t *testing.T) {
	for _, id := range []string{"a", "k1", "α-2", strings.Repeat("k", 32), strings.Repeat("ω", 32)} {
		b := built(t, counted(32), blob.Head{Id: id, Version: 4, Nonce: counted(12)}, nil, "")
		for n := range len(b) {
			isNone(t, strconv.Itoa(n)+" bytes", b[:n])
		}
		for n := 1; n <= len(b); n++ {
			isNone(t, "without "+strconv.Itoa(n)+" bytes", b[n:]+noughts(16))
		}
	}
}

// P12.1: a head begins with K1, and with nothing else.
func TestWrongMarks(t *testing.T) {
	behind := "\x02k1\x01" + counted(12) + counted(20)
	parses(t, "K1", "K1"+behind, blob.Head{Id: "k1", Version: 1, Nonce: counted(12)})
	for _, mark := range []string{"", "K", "1", "K2", "k1", "1K", "K\x01", "K0", "L1", "K11", "KK1", " K1", "\x00\x00", "\x00K1", "Κ1", "K1K1"} {
		isNone(t, strconv.Quote(mark), mark+behind)
	}
	for first := range 256 {
		for _, mark := range []string{string([]byte{byte(first), '1'}), string([]byte{'K', byte(first)})} {
			if mark != "K1" {
				isNone(t, strconv.Quote(mark), mark+behind)
			}
		}
	}
}

// P12.1: the length of an id counts its bytes, and is its own.
func TestLengthsOfIds(t *testing.T) {
	for _, id := range []string{"a", "k1", "key-1", "α", "α2", strings.Repeat("k", 32), strings.Repeat("ω", 32)} {
		for long := range 256 {
			b := "K1" + string([]byte{byte(long)}) + id + "\x01" + noughts(12) + counted(300)
			if long == len(id) {
				parses(t, strconv.Quote(id), b, blob.Head{Id: id, Version: 1, Nonce: noughts(12)})
			} else {
				isNone(t, strconv.Quote(id)+" as of "+strconv.Itoa(long), b)
			}
		}
	}
	runes := "K1\x20" + strings.Repeat("ω", 32) + "\x01" + noughts(12) + noughts(16)
	isNone(t, "the length counts runes", runes)
	isNone(t, "as 2 bytes", "K1\x00\x02k1\x01"+noughts(12)+noughts(16))
}

// P12.1: an id that is no name, though its length is right; also one that would be long enough for two lengths.
func TestWrongIds(t *testing.T) {
	for _, id := range wrongIds() {
		b := "K1" + string([]byte{byte(len(id))}) + id + "\x01" + noughts(12) + noughts(16)
		isNone(t, strconv.Quote(id), b)
		isNone(t, strconv.Quote(id)+", more behind it", b+noughts(1000))
	}
}

// P12.1: a version is a byte, 1 to 8, and no digit.
func TestVersions(t *testing.T) {
	for version := range 256 {
		b := "K1\x02k1" + string([]byte{byte(version)}) + counted(12) + noughts(16)
		if version >= 1 && version <= 8 {
			parses(t, strconv.Itoa(version), b, blob.Head{Id: "k1", Version: version, Nonce: counted(12)})
		} else {
			isNone(t, "version "+strconv.Itoa(version), b)
		}
	}
}

// P12.1: heads with some bytes changed to others that stand in heads, and any bytes, are parsed as the chapter's words tell.
func TestAnyBytes(t *testing.T) {
	draw := mixer(23)
	next := below(draw)
	taken := 0
	for range 30000 {
		b := []byte("K1\x01a\x01" + noughts(12) + draw(next(40)))
		for range 1 + next(3) {
			b[next(6)] = []byte{'K', '1', 0, 1, 2, 8, 9, 'a', '-', 0xce, 0xb1, 0xff}[next(12)]
		}
		h, e := blob.Parse(string(b))
		if want, f := parsedOf(string(b)); h != want || e != f {
			t.Fatalf("%q: %d, %+v, not %d, %+v", b, e, h, f, want)
		}
		if e == 0 {
			taken++
		}
	}
	if taken < 500 {
		t.Errorf("%d heads only", taken)
	}
	for range 3000 {
		isNone(t, "any bytes", draw(next(100)))
	}
}
