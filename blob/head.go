package blob

import (
	"strings"

	"keyloft/api"
	"keyloft/label"
)

const mark = "K1" // begins each head

// How many bytes tell an id's length, and a version.
const (
	lengthLen  = 1
	versionLen = 1
)

// right: may a blob have such a head?
func (h Head) right() bool {
	return label.Right(h.Id) && 1 <= h.Version && h.Version <= api.MaxVersions && len(h.Nonce) == api.NonceLen
}

// laid: a right head's bytes. The id's length, told in bytes, goes into one byte, because no name has more than 64.
func (h Head) laid() string {
	return mark + oneByte(len(h.Id)) + h.Id + oneByte(h.Version) + h.Nonce
}

// parted: a blob's head, and what is sealed behind it; false, if it is none.
func parted(b string) (Head, string, bool) {
	take := taker(b)
	if take(len(mark)) != mark {
		return Head{}, "", false
	}
	h := read(take)
	sealed := take(len(b))
	if !h.right() || len(sealed) < api.TagLen || len(sealed) > api.MaxPlain+api.TagLen {
		return Head{}, "", false
	}
	return h, sealed, true
}

// taker: takes bytes off a blob, so many at a time; fewer, where no more are left.
func taker(b string) func(n int) string {
	return func(n int) string {
		n = min(n, len(b))
		piece := b[:n]
		b = b[n:]
		return piece
	}
}

// read: a head of the bytes that are taken behind the mark. Where some are missing the nonce is too short, so that it is no right one. Its texts are copies, so that no answer shares memory with the blob.
func read(take func(n int) string) Head {
	id := take(number(take(lengthLen)))
	version := number(take(versionLen))
	nonce := take(api.NonceLen)
	return Head{strings.Clone(id), version, strings.Clone(nonce)}
}

// oneByte: a number's, as a text.
func oneByte(n int) string { return string([]byte{byte(n)}) }

// number: of such a text; 0 of an empty one.
func number(s string) int {
	if s == "" {
		return 0
	}
	return int(s[0])
}
