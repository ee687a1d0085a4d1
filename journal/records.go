package journal

import (
	"iter"
	"math"
)

// record is a record as it lies on a disk.
type record struct {
	generation uint32
	sectors    int
	data       []byte
}

// records yields the records on a disk, up to the end of the journal.
func records(sectors [][]byte) iter.Seq[[]byte] {
	return func(yield func(data []byte) bool) {
		generation := uint32(0)
		for at := 0; ; {
			r, whole := recordAt(sectors, at)
			// A lesser generation is older than the record before it, and so was not written after it.
			if !whole || r.generation < generation || !yield(r.data) {
				return
			}
			at += r.sectors
			generation = r.generation
		}
	}
}

// recordAt returns the record that begins at a sector, if it is whole.
func recordAt(sectors [][]byte, at int) (r record, whole bool) {
reading:
	for k := at; k < len(sectors); k++ {
		s, good := parse(block(sectors[k]), k)
		switch {
		case !good || s.begins != (k == at):
			break reading
		case s.begins:
			r.generation = s.generation
		case s.generation != r.generation:
			break reading
		}
		r.sectors++
		r.data = append(r.data, s.piece...)
		if s.ends {
			return r, true
		}
	}
	return record{}, false
}

// occupied returns how many sectors records occupy.
func occupied(records ...[]byte) int {
	n := 0
	for _, r := range records {
		n += max(1, (len(r)+pieceSize-1)/pieceSize)
	}
	return n
}

// split returns the sectors of a record, the first of which has the number first.
func split(data []byte, first int, generation uint32) []sector {
	l := make([]sector, occupied(data))
	for i := range l {
		from := i * pieceSize
		l[i] = sector{
			generation: generation,
			number:     first + i,
			begins:     i == 0,
			ends:       i == len(l)-1,
			piece:      data[from:min(from+pieceSize, len(data))],
		}
	}
	return l
}

// nextGeneration returns a number that is greater than all generations on a disk, if there is one. A torn sector has two.
func nextGeneration(sectors [][]byte) (generation uint32, ok bool) {
	greatest := uint32(0)
	for _, s := range sectors {
		b := block(s)
		greatest = max(greatest, b.get(0), b.get(againAt))
	}
	return greatest + 1, greatest < math.MaxUint32
}
