package label

import (
	"strings"

	"keyloft/api"
)

const (
	mostKey   = 32 // bytes; api.MaxName counts runes, of names
	mostValue = 64
)

// places: where each key's pair stands in a context; false, if it is none.
func places(context []api.Pair) (map[string]int, bool) {
	if len(context) > api.MaxContext {
		return nil, false
	}
	at := make(map[string]int, len(context))
	for i, p := range context {
		if _, twice := at[p.Key]; twice || !fits(p) {
			return nil, false
		}
		at[p.Key] = i
	}
	return at, true
}

// fits: have a pair's key and value right lengths?
func fits(p api.Pair) bool {
	return len(p.Key) >= 1 && len(p.Key) <= mostKey && len(p.Value) <= mostValue
}

// counted: a piece behind others, its length ahead of it, which a byte holds, because keys and values are no longer.
func counted(ahead []byte, piece string) []byte {
	return append(append(ahead, byte(len(piece))), piece...)
}

// taker: takes counted pieces off a text, one by one; false, when nothing is left. A piece that is cut short is as long as what is there. Each is a copy, so that no answer shares memory with the text.
func taker(s string) func() (string, bool) {
	return func() (string, bool) {
		if s == "" {
			return "", false
		}
		end := min(1+int(s[0]), len(s))
		piece := strings.Clone(s[1:end])
		s = s[end:]
		return piece, true
	}
}

// read: pairs of pieces, no more of them than a context has, however many pieces there are. A value that is missing is read as an empty one.
func read(take func() (string, bool)) []api.Pair {
	var pairs []api.Pair
	for range api.MaxContext {
		key, ok := take()
		if !ok {
			break
		}
		value, _ := take()
		pairs = append(pairs, api.Pair{Key: key, Value: value})
	}
	return pairs
}
