package journal_test

import (
	"bytes"
	"encoding/binary"
	"hash/crc32"
	"slices"
	"testing"

	"podium/api"
	"podium/disk"
	"podium/journal"
)

// form is a sector of the journal before it is put into bytes. What is behind the piece is normally zero.
type form struct {
	generation uint32
	number     int
	kind       byte
	piece      string
}

const (
	begins = 1
	ends   = 2
	whole  = begins + ends
)

func (f form) bytes() []byte {
	b := binary.BigEndian.AppendUint16(nil, uint16(f.number))
	b = append(b, f.kind, byte(len(f.piece)))
	b = append(b, f.piece...)
	return f.around(append(b, make([]byte, 116-len(b))...))
}

// around puts generations and a checksum around the bytes 8 to 123.
func (f form) around(inner []byte) []byte {
	b := binary.BigEndian.AppendUint32(nil, f.generation)
	b = binary.BigEndian.AppendUint32(b, crc32.ChecksumIEEE(inner))
	b = append(b, inner...)
	return binary.BigEndian.AppendUint32(b, f.generation)
}

// needs returns how many sectors a record of n bytes occupies, by trying.
func needs(n int) int {
	k := 1
	for 112*k < n {
		k++
	}
	return k
}

// forms returns the sectors of a record.
func forms(record string, at int, generation uint32) []form {
	var l []form
	for k := range needs(len(record)) {
		f := form{generation: generation, number: at + k}
		f.piece, record = record[:min(112, len(record))], record[min(112, len(record)):]
		if k == 0 {
			f.kind += begins
		}
		l = append(l, f)
	}
	l[len(l)-1].kind += ends
	return l
}

// good follows the definition of a good sector.
func good(s []byte, k int) bool {
	n := int(s[11])
	return !bytes.Equal(s[:4], make([]byte, 4)) && bytes.Equal(s[:4], s[124:]) &&
		binary.BigEndian.Uint32(s[4:]) == crc32.ChecksumIEEE(s[8:124]) &&
		int(s[8])*256+int(s[9]) == k &&
		s[10] <= 3 && n <= 112 && (s[10] >= 2 || n == 112) && (s[10]%2 == 1 || n >= 1) &&
		len(bytes.Trim(s[12+n:124], "\x00")) == 0
}

// continuing follows the definition of a good sector that continues another one.
func continuing(s, before []byte) bool {
	return bytes.Equal(s[:4], before[:4]) && binary.BigEndian.Uint16(s[8:]) == binary.BigEndian.Uint16(before[8:])+1 &&
		before[10] < 2 && s[10]%2 == 0
}

// spans reports whether a record lies in the sectors from the index at to the one before end.
func spans(sectors [][]byte, at, end int) bool {
	for k := at; k < end; k++ {
		if !good(sectors[k], k) || (k > at && !continuing(sectors[k], sectors[k-1])) {
			return false
		}
	}
	return sectors[at][10]%2 == 1 && sectors[end-1][10] >= 2
}

// recordsOn follows the definition of the records on a disk.
func recordsOn(sectors [][]byte) []string {
	l, before := []string(nil), make([]byte, 4)
	at := 0
search:
	for at < len(sectors) && bytes.Compare(sectors[at][:4], before) >= 0 {
		for end := at + 1; end <= len(sectors); end++ {
			if !spans(sectors, at, end) {
				continue
			}
			var r []byte
			for _, s := range sectors[at:end] {
				r = append(r, s[12:12+int(s[11])]...)
			}
			l, before, at = append(l, string(r)), sectors[at][:4], end
			continue search
		}
		break
	}
	return l
}

func opening(d api.Disk) (api.Journal, api.Errno) {
	switch {
	case disk.Check(d) != api.OK || d.Stopped:
		return api.Journal{}, api.ErrDisk
	case len(d.Pending) > 0:
		return api.Journal{}, api.ErrArg
	}
	l := recordsOn(d.Sectors)
	return api.Journal{Records: asBytes(l), Many: len(d.Sectors), Synced: len(l)}, api.OK
}

func checking(j api.Journal) api.Errno {
	n := 0
	for _, r := range j.Records {
		n += needs(len(r))
	}
	if j.Many < 1 || j.Many > 4096 || j.Synced < 0 || j.Synced > len(j.Records) || n > j.Many {
		return api.ErrArg
	}
	return api.OK
}

// syncError returns the error that Sync reports before it writes.
func syncError(j api.Journal, d api.Disk) api.Errno {
	switch {
	case checking(j) != api.OK:
		return api.ErrArg
	case disk.Check(d) != api.OK || d.Stopped:
		return api.ErrDisk
	case j.Many != len(d.Sectors) || len(d.Pending) > 0:
		return api.ErrArg
	case !slices.Equal(recordsOn(d.Sectors), asTexts(j.Records)[:j.Synced]) || generationFor(d) > 1<<32-1:
		return api.ErrLog
	}
	return api.OK
}

func generationFor(d api.Disk) int {
	g := 0
	for _, s := range d.Sectors {
		g = max(g, int(binary.BigEndian.Uint32(s[:4])), int(binary.BigEndian.Uint32(s[124:])))
	}
	return g + 1
}

// syncing follows the definition of Sync.
func syncing(j api.Journal, d api.Disk) (api.Journal, api.Disk, api.Errno) {
	if e := syncError(j, d); e != api.OK {
		return api.Journal{}, api.Disk{}, e
	}
	if j.Synced == len(j.Records) {
		return j, d, api.OK
	}
	g, at := uint32(generationFor(d)), 0
	for i, r := range asTexts(j.Records) {
		l := forms(r, at, g)
		at += len(l)
		for _, f := range l {
			if i >= j.Synced {
				d, _ = disk.Write(d, f.number, f.bytes())
			}
		}
	}
	d, e := disk.Sync(d)
	if e != api.OK {
		return api.Journal{}, d, e
	}
	j.Synced = len(j.Records)
	return j, d, api.OK
}

func asBytes(l []string) [][]byte {
	var b [][]byte
	for _, s := range l {
		b = append(b, []byte(s))
	}
	return b
}

func asTexts(l [][]byte) []string {
	var t []string
	for _, b := range l {
		t = append(t, string(b))
	}
	return t
}

func sameJournal(a, b api.Journal) bool {
	return slices.EqualFunc(a.Records, b.Records, bytes.Equal) && a.Many == b.Many && a.Synced == b.Synced
}

func sameWrite(a, b api.Write) bool { return a.At == b.At && bytes.Equal(a.Data, b.Data) }

func sameDisk(a, b api.Disk) bool {
	return slices.EqualFunc(a.Sectors, b.Sectors, bytes.Equal) && slices.EqualFunc(a.Pending, b.Pending, sameWrite) &&
		a.Left == b.Left && a.Stopped == b.Stopped
}

// deep returns a list of byte strings that shares no memory with l.
func deep(l [][]byte) [][]byte { return asBytes(asTexts(l)) }

func checkOpen(t *testing.T, what string, d api.Disk, records ...string) {
	t.Helper()
	j, e := journal.Open(d)
	want := api.Journal{Records: asBytes(records), Many: len(d.Sectors), Synced: len(records)}
	if e != api.OK || !sameJournal(j, want) {
		t.Errorf("%s: %d records %.60q of %d, %d synced, %d, not %d records %.60q", what, len(j.Records), j.Records, j.Many, j.Synced, e, len(records), records)
	}
}

// bench is a disk with its journal, beside lists of the records that survive a crash, and of those that do not yet.
type bench struct {
	t       *testing.T
	d       api.Disk
	j       api.Journal
	synced  []string
	waiting []string
}

func newBench(t *testing.T, sectors int) *bench {
	t.Helper()
	d, e := disk.New(sectors)
	if e != api.OK {
		t.Fatal(e)
	}
	b := &bench{t: t, d: d}
	b.reopen()
	return b
}

// reopen checks that what was synced is on the disk.
func (b *bench) reopen() {
	b.t.Helper()
	checkOpen(b.t, "reopened", b.d, b.synced...)
	j, e := journal.Open(b.d)
	want, wantE := opening(b.d)
	if e != wantE || !sameJournal(j, want) {
		b.t.Fatalf("Open: %q %d, not %q %d", j.Records, e, want.Records, wantE)
	}
	b.j, b.waiting = j, nil
}

// room returns how many sectors are left.
func (b *bench) room() int {
	n := len(b.d.Sectors)
	for _, r := range slices.Concat(b.synced, b.waiting) {
		n -= needs(len(r))
	}
	return n
}

func (b *bench) add(record string) {
	b.t.Helper()
	if n := journal.Room(b.j); n != 112*b.room() {
		b.t.Fatalf("Room: %d, not %d", n, 112*b.room())
	}
	x, e := journal.Append(b.j, []byte(record))
	if needs(len(record)) > b.room() {
		if e != api.ErrLimit || !sameJournal(x, api.Journal{}) {
			b.t.Fatalf("Append of %d bytes: %d", len(record), e)
		}
		return
	}
	b.waiting = append(slices.Clone(b.waiting), record)
	want := api.Journal{Records: asBytes(slices.Concat(b.synced, b.waiting)), Many: len(b.d.Sectors), Synced: len(b.synced)}
	if e != api.OK || !sameJournal(x, want) {
		b.t.Fatalf("Append of %d bytes: %d", len(record), e)
	}
	b.j = x
}

// sync writes what waits. If the disk stops after some writes, the records before the torn one are there after a restart.
func (b *bench) sync(left int) {
	b.t.Helper()
	b.d.Left = left
	kept, keptJ := b.d, b.j
	kept.Sectors, keptJ.Records = deep(b.d.Sectors), deep(b.j.Records)
	x, y, e := journal.Sync(b.j, b.d)
	wantX, wantY, wantE := syncing(b.j, b.d)
	if e != wantE || !sameJournal(x, wantX) || !sameDisk(y, wantY) {
		b.t.Fatalf("Sync, %d left: %d, not %d", left, e, wantE)
	}
	if !sameDisk(b.d, kept) || !sameJournal(b.j, keptJ) {
		b.t.Fatalf("Sync, %d left: the arguments were changed", left)
	}
	b.d = y
	done := 0
	for _, r := range b.waiting {
		done += needs(len(r))
		if left >= 0 && done > left {
			b.crash(e)
			return
		}
		b.synced = append(slices.Clone(b.synced), r)
	}
	if e != api.OK {
		b.t.Fatalf("Sync, %d left: %d", left, e)
	}
	b.j, b.waiting = x, nil
	b.reopen()
}

func (b *bench) crash(e api.Errno) {
	b.t.Helper()
	if _, wrong := journal.Open(b.d); e != api.ErrDisk || wrong != api.ErrDisk {
		b.t.Fatalf("a disk that has stopped: %d, and %d by Open", e, wrong)
	}
	b.d = disk.Restart(b.d)
	b.reopen()
}
