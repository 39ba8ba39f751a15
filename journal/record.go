package journal

import (
	"iter"
	"strings"

	"keyloft/api"
	"keyloft/sha"
)

// How many bytes tell what is in a record, and where its text and what lies behind it begin.
const (
	generationLen = 8
	numberLen     = 4
	lengthLen     = 4
	numberAt      = 1 + generationLen
	lengthAt      = numberAt + numberLen
	textAt        = lengthAt + lengthLen
	digestLen     = 32
	firstLen      = api.SectorSize - 1     // of a record's bytes on its first sector
	around        = textAt + digestLen + 1 // of what is laid, beside the text
	mark          = "L"                    // begins a record, and ends its first sector, where a torn one misses it
	mostText      = 1<<16 - 1
)

const (
	leastGeneration = 1
	mostGeneration  = 1 << 40
)

// record: of a half.
type record struct {
	generation, number uint64
	text               string
}

// sectors: how many a record lies on whose text has so many bytes.
func sectors(long int) int {
	return (around + long + api.SectorSize - 1) / api.SectorSize
}

// laid: a record's bytes as they lie on sectors. The last one is filled up by the disk.
func (r record) laid() string {
	body := mark + highFirst(r.generation, generationLen) + highFirst(r.number, numberLen) + highFirst(uint64(len(r.text)), lengthLen) + r.text
	all := body + sha.Of(body)
	end := min(firstLen, len(all))
	return all[:end] + strings.Repeat("\x00", firstLen-end) + mark + all[end:]
}

// taken: the record that lies at the beginning of sectors; false, if there is none.
func taken(lies string) (record, bool) {
	if len(lies) < api.SectorSize || lies[:1] != mark || lies[firstLen:api.SectorSize] != mark {
		return record{}, false
	}
	generation, long := number(lies[1:numberAt]), number(lies[lengthAt:textAt])
	if generation < leastGeneration || generation > mostGeneration || long > mostText {
		return record{}, false
	}
	end := sectors(int(long)) * api.SectorSize
	if end > len(lies) {
		return record{}, false
	}
	all := lies[:firstLen] + lies[api.SectorSize:end]
	behind := textAt + int(long)
	if !sha.Equal(all[behind:behind+digestLen], sha.Of(all[:behind])) {
		return record{}, false
	}
	return record{generation, number(lies[numberAt:lengthAt]), all[textAt:behind]}, true
}

// fromLast: what lies on each sector, with its place, from the last one to the first.
func fromLast(laid string) iter.Seq2[int, string] {
	return func(yield func(int, string) bool) {
		end := len(laid)
		for i := (end - 1) / api.SectorSize; i >= 0; i-- {
			at := i * api.SectorSize
			if !yield(i, laid[at:end]) {
				return
			}
			end = at
		}
	}
}

// highFirst: a number's lowest bytes, so many.
func highFirst(n uint64, long int) string {
	out := make([]byte, long)
	for i := range out {
		out[i] = byte(n >> (8 * (long - 1 - i)))
	}
	return string(out)
}

// number: of such bytes.
func number(s string) uint64 {
	var n uint64
	for i := range len(s) {
		n = n<<8 | uint64(s[i])
	}
	return n
}
