package disk

import "keyloft/api"

// mostKept: so many of the writes that wait have a bit of their own in what tells which of them are kept.
const mostKept = 64

// sector: as a value, so that a copy shares nothing with it.
type sector [api.SectorSize]byte

// write: of a sector, at its place.
type write struct {
	at   int
	data sector
}

// filled: a text as a sector, with bytes 0 behind it.
func filled(text string) sector {
	var s sector
	copy(s[:], text)
	return s
}

// wait: a write is seen, and waits. One that no bit can keep is only counted.
func (d *Disk) wait(w write) {
	d.seen[w.at] = w.data
	if d.count < mostKept {
		d.waiting = append(d.waiting, w)
	}
	d.count++
}

// settle: what is seen and what lasts become the same, the one the other, and nothing waits. They are copied whole only where more wait than is known where, so that a flush of few writes takes no longer on a large disk.
func (d *Disk) settle(to, from []sector) {
	if d.count > len(d.waiting) {
		copy(to, from)
	}
	for _, w := range d.waiting {
		to[w.at] = from[w.at]
	}
	d.waiting, d.count = d.waiting[:0], 0
}

// keeper: tells how many first bytes of a write outlast a failure, by its number among those that wait, of which the last one may be torn. A number beyond the bits is shifted to a nought.
func keeper(keep uint64, torn, last int) func(number int) int {
	return func(number int) int {
		if keep>>number&1 == 0 {
			return 0
		}
		if number == last {
			return min(max(torn, 0), api.SectorSize)
		}
		return api.SectorSize
	}
}
