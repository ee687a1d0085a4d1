package journal

import "podium/api"

// Where the parts of a sector begin; the generation is at the beginning of the sector.
const (
	sumAt    = 4
	numberAt = 8
	kindAt   = 10
	lengthAt = 11
	pieceAt  = 12
	againAt  = 124 // the generation once more
)

const (
	pieceSize = againAt - pieceAt // the most bytes of a record in one sector

	beginning = 1 // what the kind of a sector has if a record begins there
	ending    = 2 // what it has if a record ends there
)

// block is a sector as bytes.
type block [api.SectorSize]byte

// sector is what a sector of the journal says.
type sector struct {
	generation   uint32
	number       int
	begins, ends bool
	piece        []byte
}

// bytes returns the form of a sector.
func (s sector) bytes() (b block) {
	b.put(0, s.generation)
	b.put(againAt, s.generation)
	b[numberAt], b[numberAt+1] = byte(s.number>>8), byte(s.number)
	if s.begins {
		b[kindAt] |= beginning
	}
	if s.ends {
		b[kindAt] |= ending
	}
	b[lengthAt] = byte(len(s.piece))
	copy(b[pieceAt:againAt], s.piece)
	b.put(sumAt, checksum(b[numberAt:againAt]))
	return b
}

// parse returns what a sector of the disk says, and whether it is good for its number.
func parse(b block, number int) (s sector, good bool) {
	length := int(b[lengthAt])
	if length > pieceSize {
		return sector{}, false
	}
	s = sector{
		generation: b.get(0),
		number:     number,
		begins:     b[kindAt]&beginning != 0,
		ends:       b[kindAt]&ending != 0,
		piece:      b[pieceAt : pieceAt+length],
	}
	if s.generation == 0 || !s.ends && length < pieceSize || !s.begins && length == 0 {
		return sector{}, false
	}
	// A sector has the form only if it is what would have been written.
	return s, s.bytes() == b
}

// put writes a number, its most significant byte first.
func (b *block) put(at int, n uint32) {
	number := [4]byte{byte(n >> 24), byte(n >> 16), byte(n >> 8), byte(n)}
	copy(b[at:], number[:])
}

// get reads a number that put has written.
func (b *block) get(at int) uint32 {
	n := uint32(0)
	for _, c := range b[at : at+4] {
		n = n<<8 | uint32(c)
	}
	return n
}

func checksum(b []byte) uint32 {
	n := ^uint32(0)
	for _, c := range b {
		n ^= uint32(c)
		for range 8 {
			out := n & 1
			n = n>>1 ^ out*0xEDB88320
		}
	}
	return ^n
}
