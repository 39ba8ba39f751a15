package journal

import (
	"strings"

	"keyloft/api"
	"keyloft/disk"
)

// half: of a disk, with what it tells.
type half struct {
	disk       *disk.Disk
	first      int    // its first sector's place on the disk
	size       int    // how many sectors it has
	generation uint64 // of its records; 0, where it tells none, so that any is greater
	texts      []string
	used       int // how many sectors its records lie on
}

// step: a write or a flush.
type step func() api.Errno

// other: the disk's other half, of which nothing is told yet.
func (h half) other() half {
	return half{disk: h.disk, first: h.size - h.first, size: h.size}
}

// told: with the records that lie in it.
func (h half) told() half {
	lies := h.read()
	for {
		r, ok := taken(lies[h.used*api.SectorSize:])
		if !ok || r.number != uint64(len(h.texts)) || h.generation != 0 && r.generation != h.generation {
			return h
		}
		h.generation = r.generation
		h = h.with(r.text)
	}
}

// read: all that lies in it. No sector is refused: the disk has them all, and its power is on.
func (h half) read() string {
	var all strings.Builder
	for i := range h.size {
		sector, _ := h.disk.Read(h.first + i)
		all.WriteString(sector)
	}
	return all.String()
}

// with: one text more. A copy, so that nothing that was handed in is kept.
func (h half) with(text string) half {
	h.used += sectors(len(text))
	h.texts = append(h.texts, strings.Clone(text))
	return h
}

// room: how many bytes one text more may have; below 0, if not even an empty one goes in.
func (h half) room() int {
	return min(mostText, (h.size-h.used)*api.SectorSize-around)
}

// laying: what lays a text's record behind the others. Its first sector comes behind a flush of all the others, so that no failure leaves a record of which one of them is missing.
func (h half) laying(text string) []step {
	r := record{h.generation, uint64(len(h.texts)), text}
	var steps []step
	for i, sector := range fromLast(r.laid()) {
		if i == 0 {
			steps = append(steps, h.disk.Flush)
		}
		steps = append(steps, h.write(h.used+i, sector))
	}
	return append(steps, h.disk.Flush)
}

// ending: what empties the sector behind all records, if there is one, so that none that lay there long ago comes behind them.
func (h half) ending() []step {
	if h.used == h.size {
		return nil
	}
	return []step{h.write(h.used, "")}
}

// write: of one of its sectors.
func (h half) write(at int, data string) step {
	return func() api.Errno { return h.disk.Write(h.first+at, data) }
}
