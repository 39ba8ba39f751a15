package store_test

import (
	"crypto/sha256"
	"encoding/binary"
	"encoding/hex"
	"strconv"
	"strings"
	"testing"

	"keyloft/api"
	"keyloft/store"
)

// P10.2: so many keys: transactions of 16 each, rising by their bytes, and what is left; of no key one without changes.
func TestCompact(t *testing.T) {
	for n := range 70 {
		d := made(t, 600)
		s := opened(t, d)
		want := words{}
		for i := range n {
			c := put("k"+strconv.Itoa(i*71%n), list(i, "v"))
			is(t, "Commit", s.Commit(c), api.OK)
			want = want.behind(c)
		}
		for range 3 {
			is(t, "Compact", s.Compact(), api.OK)
			lies(t, d, want.anew()...)
			has(t, s, want)
			has(t, opened(t, d), want)
		}
		if l := want.anew(); len(l) != max(1, (n+15)/16) {
			t.Fatal(n, len(l))
		}
	}
}

// P10.2: texts' bytes, as another program tells them.
func TestKnownCompact(t *testing.T) {
	d := made(t, 64)
	s := opened(t, d)
	is(t, "Compact", s.Compact(), api.OK)
	lies(t, d, "l\x00")
	var changes []store.Change
	for i := range 18 {
		changes = append(changes, put(string([]byte{byte('r' - i)}), i%2 == 0))
	}
	is(t, "Commit", s.Commit(append(changes, gone("a"))...), api.OK)
	is(t, "Compact", s.Compact(), api.OK)
	texts := []string{"6c106c027300016279", "6c016c027300017279"}
	for i := range 15 {
		texts[0] += "6c02730001" + hex.EncodeToString([]byte{byte('c' + i)}) + []string{"6e", "79"}[i%2]
	}
	for i, s := range texts {
		text, err := hex.DecodeString(s)
		if err != nil {
			t.Fatal(err)
		}
		texts[i] = string(text)
	}
	lies(t, d, texts...)
}

// P10.2: a store goes on behind a Compact, and what was appended since is in the next one.
func TestGoesOn(t *testing.T) {
	d := made(t, 200)
	s := opened(t, d)
	want := words{}
	for i := range 60 {
		c := put("k"+strconv.Itoa(i*7%23), i)
		if i%5 == 4 {
			c = gone("k" + strconv.Itoa(i*11%23))
		}
		is(t, "Commit", s.Commit(c), api.OK)
		want = want.behind(c)
		if i%4 == 3 {
			is(t, "Compact", s.Compact(), api.OK)
			lies(t, d, want.anew()...)
		} else if i%4 == 0 && i > 0 {
			s = opened(t, d)
		}
		has(t, s, want)
	}
}

// P10.3: behind a Compact no text of the journal has what went, as a key, as a value, or as part of one.
func TestWhatWentIsInNoText(t *testing.T) {
	d := made(t, 600)
	s := opened(t, d)
	for i := range 40 {
		n := strconv.Itoa(i)
		is(t, "Commit", s.Commit(put("WENT"+n, i), put("stays"+n, list("WENT", list("WENT")))), api.OK)
		is(t, "Commit", s.Commit(put("stays"+n, "now")), api.OK)
		is(t, "Commit", s.Commit(gone("WENT"+n)), api.OK)
	}
	if !strings.Contains(strings.Join(lying(t, d).Texts(), ""), "WENT") {
		t.Error("it wasn't there")
	}
	is(t, "Compact", s.Compact(), api.OK)
	if strings.Contains(strings.Join(lying(t, d).Texts(), ""), "WENT") {
		t.Error("it is there still")
	}
	if l := s.Keys("stays"); len(l) != 40 || len(s.Keys("WENT")) != 0 {
		t.Errorf("%q", l)
	}
}

// P10.2: ErrFull, where the transactions don't go into a half of the disk; nothing changes.
func TestCompactFull(t *testing.T) {
	var refused [2]int
	for long := range 200 {
		d := made(t, 20)
		s := opened(t, d)
		changes := []store.Change{put("long", repeated(long))}
		for i := range 40 {
			changes = append(changes, put(strconv.Itoa(i), false))
		}
		is(t, "Commit", s.Commit(changes...), api.OK)
		want := words{}.behind(changes...)
		if used(want.anew()) > 10 {
			untouched(t, d, func() { is(t, "Compact", s.Compact(), api.ErrFull) })
			lies(t, d, textOf(changes...))
			refused[1]++
		} else {
			is(t, "Compact", s.Compact(), api.OK)
			lies(t, d, want.anew()...)
			refused[0]++
		}
		has(t, s, want)
		has(t, opened(t, d), want)
	}
	if refused[0] < 10 || refused[1] < 10 {
		t.Error(refused)
	}
}

// P10.2: 16 keys whose values don't go into one text of a journal can't be made anew, whatever room there is.
func TestCompactLongest(t *testing.T) {
	d := made(t, 4096)
	s := opened(t, d)
	is(t, "Commit", s.Commit(put("a", repeated(40000))), api.OK)
	around := len(textOf(put("a", repeated(40000)), put("b", "")))
	c := put("b", repeated(65536-around))
	is(t, "Commit", s.Commit(c), api.OK)
	untouched(t, d, func() { is(t, "Compact", s.Compact(), api.ErrFull) })
	has(t, s, words{"a": bytesOf(repeated(40000)), "b": bytesOf(c.Value)})
	c.Value = repeated(65535 - around)
	is(t, "Commit", s.Commit(c), api.OK)
	is(t, "Compact", s.Compact(), api.OK)
	lies(t, d, textOf(put("a", repeated(40000)), c))
}

// P10.2: behind the journal's greatest generation nothing is made anew: it doesn't go, either; what has room is appended.
func TestGreatestGeneration(t *testing.T) {
	d := made(t, 8)
	text := textOf(put("a", true))
	record := binary.BigEndian.AppendUint64([]byte("L"), 1<<40)
	record = binary.BigEndian.AppendUint64(record, uint64(len(text)))
	record = append(record, text...)
	digest := sha256.Sum256(record)
	record = append(record, digest[:]...)
	is(t, "Write", d.Write(0, string(record)+strings.Repeat("\x00", 63-len(record))+"L"), api.OK)
	is(t, "Flush", d.Flush(), api.OK)
	s := opened(t, d)
	want := words{"a": "y"}
	has(t, s, want)
	for range 3 {
		untouched(t, d, func() { is(t, "Compact", s.Compact(), api.ErrFull) })
		untouched(t, d, func() { is(t, "Commit", s.Commit(put("b", repeated(140))), api.ErrFull) })
		has(t, s, want)
		is(t, "Commit", s.Commit(put("b", true)), api.OK)
		want = want.behind(put("b", true))
		has(t, s, want)
	}
	untouched(t, d, func() { is(t, "Commit", s.Commit(gone("a")), api.ErrFull) })
	has(t, opened(t, d), want)
}

// P10.2: the other half gets what is made anew, by turns, each one of the next generation.
func TestTurns(t *testing.T) {
	d := made(t, 8)
	s := opened(t, d)
	for i := range 10 {
		is(t, "Compact", s.Compact(), api.OK)
		image := d.Image()
		if got := image[256*(1-i%2) : 256*(1-i%2)+19]; got != "L\x00\x00\x00\x00\x00\x00\x00"+string([]byte{byte(i + 1)})+"\x00\x00\x00\x00\x00\x00\x00\x02l\x00" {
			t.Errorf("%q", got)
		}
	}
}
