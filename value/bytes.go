package value

import (
	"strings"

	"keyloft/api"
)

const (
	mostLists = 8 // within one another
	mostText  = 65535
	mostList  = 255
)

// What a value's bytes begin with.
const (
	ofInt  byte = 'i'
	ofText byte = 's'
	ofYes  byte = 'y'
	ofNo   byte = 'n'
	ofList byte = 'l'
)

// How many bytes tell a number, a text's length, and a list's.
const (
	intLen  = 8
	textLen = 2
	listLen = 1
)

// printed: a value's bytes behind others. Within is how many lists it stands in.
func printed(out []byte, v any, within int) ([]byte, api.Errno) {
	switch x := v.(type) {
	case int:
		return highFirst(append(out, ofInt), uint64(x), intLen), api.OK
	case string:
		return printedText(out, x)
	case bool:
		if x {
			return append(out, ofYes), api.OK
		}
		return append(out, ofNo), api.OK
	case []any:
		return printedList(out, x, within+1)
	}
	return nil, api.ErrType
}

// printedText: a text's bytes behind others.
func printedText(out []byte, text string) ([]byte, api.Errno) {
	if len(text) > mostText {
		return nil, api.ErrLong
	}
	out = highFirst(append(out, ofText), uint64(len(text)), textLen)
	return append(out, text...), api.OK
}

// printedList: a list's bytes behind others. Lists is how many stand within one another so far, this one counted: it is looked at ahead of what is in the list, so that one that has itself in it comes to an end, too.
func printedList(out []byte, l []any, lists int) ([]byte, api.Errno) {
	if len(l) > mostList || lists > mostLists {
		return nil, api.ErrLong
	}
	out = highFirst(append(out, ofList), uint64(len(l)), listLen)
	for _, v := range l {
		var e api.Errno
		if out, e = printed(out, v, lists); e != api.OK {
			return nil, e
		}
	}
	return out, api.OK
}

// highFirst: a number's lowest bytes, so many, behind others.
func highFirst(out []byte, number uint64, long int) []byte {
	for i := long - 1; i >= 0; i-- {
		out = append(out, byte(number>>(8*i)))
	}
	return out
}

// taker: takes bytes off a text, so many at a time; false, when there aren't as many left.
func taker(s string) func(n int) (string, bool) {
	return func(n int) (string, bool) {
		if n > len(s) {
			return "", false
		}
		piece := s[:n]
		s = s[n:]
		return piece, true
	}
}

// read: a value, off the bytes that are taken. Within is how many lists it stands in.
func read(take func(int) (string, bool), within int) (any, bool) {
	kind, ok := take(1)
	if !ok {
		return nil, false
	}
	switch kind[0] {
	case ofInt:
		number, ok := readNumber(take, intLen)
		return int(number), ok
	case ofText:
		return readText(take)
	case ofYes:
		return true, true
	case ofNo:
		return false, true
	case ofList:
		return readList(take, within+1)
	}
	return nil, false
}

// readText: a copy, so that no answer shares memory with what is parsed.
func readText(take func(int) (string, bool)) (any, bool) {
	long, ok := readNumber(take, textLen)
	if !ok {
		return nil, false
	}
	text, ok := take(int(long))
	return strings.Clone(text), ok
}

// readList: lists is how many stand within one another so far, this one counted.
func readList(take func(int) (string, bool), lists int) (any, bool) {
	count, ok := readNumber(take, listLen)
	if !ok || lists > mostLists {
		return nil, false
	}
	l := make([]any, 0, count)
	for range count {
		v, ok := read(take, lists)
		if !ok {
			return nil, false
		}
		l = append(l, v)
	}
	return l, true
}

// readNumber: of so many bytes, the highest first.
func readNumber(take func(int) (string, bool), long int) (uint64, bool) {
	piece, ok := take(long)
	var number uint64
	for i := range len(piece) {
		number = number<<8 | uint64(piece[i])
	}
	return number, ok
}
