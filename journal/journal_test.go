package journal_test

import (
	"bytes"
	"fmt"
	"hash/crc32"
	"math"
	"math/rand"
	"slices"
	"strings"
	"testing"

	"podium/api"
	"podium/disk"
	"podium/journal"
)

const lastGeneration = 1<<32 - 1

// text returns n bytes that are not all equal.
func text(n int) string { return strings.Repeat("0123456789abcdefghijklmnopqrstuvwxyz.", n/37+1)[:n] }

// diskOf returns a disk with these sectors, each of which is a form or a list of bytes.
func diskOf(l ...any) api.Disk {
	d := api.Disk{Left: -1}
	for _, s := range l {
		switch s := s.(type) {
		case form:
			d.Sectors = append(d.Sectors, s.bytes())
		case []byte:
			d.Sectors = append(d.Sectors, s)
		}
	}
	return d
}

// changed returns a copy of a list of bytes with a change.
func changed(b []byte, f func(b []byte)) []byte {
	b = bytes.Clone(b)
	f(b)
	return b
}

// forged returns a sector whose bytes 8 to 123 are changed before its checksum is calculated.
func forged(s form, f func(inner []byte)) []byte {
	return s.around(changed(s.bytes()[8:124], f))
}

// The terms: the checksum of the example is the one that the tests calculate with.
func TestChecksum(t *testing.T) {
	if n := crc32.ChecksumIEEE([]byte("123456789")); n != 3421780262 {
		t.Error(n)
	}
}

// P5.1: a new disk of any size has no records.
func TestOpenNew(t *testing.T) {
	for _, n := range []int{1, 2, 3, 255, 256, 257, 4095, 4096} {
		d, e := disk.New(n)
		if e != api.OK {
			t.Fatal(e)
		}
		checkOpen(t, fmt.Sprint(n), d)
	}
}

// P5.1: what is on a disk, by hand.
func TestOpen(t *testing.T) {
	blank := make([]byte, 128)
	a, b, c := form{1, 0, whole, "a"}, form{1, 1, whole, "b"}, form{1, 2, whole, "c"}
	for _, y := range []struct {
		name string
		d    api.Disk
		want []string
	}{
		{"one", diskOf(a), []string{"a"}},
		{"all", diskOf(a, b, c), []string{"a", "b", "c"}},
		{"free sectors", diskOf(a, b, blank, blank), []string{"a", "b"}},
		{"a gap", diskOf(a, blank, c), []string{"a"}},
		{"a gap at the beginning", diskOf(blank, b, c), nil},
		{"empty records", diskOf(form{1, 0, whole, ""}, form{1, 1, whole, ""}, c), []string{"", "", "c"}},
		{"a full sector", diskOf(form{7, 0, whole, text(112)}, blank), []string{text(112)}},
		{"two sectors", diskOf(form{1, 0, begins, text(112)}, form{1, 1, ends, "x"}, c), []string{text(112) + "x", "c"}},
		{"two full sectors", diskOf(form{1, 0, begins, text(112)}, form{1, 1, ends, text(112)}), []string{text(112) + text(112)}},
		{"three sectors", diskOf(a, form{1, 1, begins, text(112)}, form{1, 2, 0, text(112)}, form{1, 3, ends, text(9)}, blank), []string{"a", text(112) + text(112) + text(9)}},
		{"no end", diskOf(a, form{1, 1, begins, text(112)}), []string{"a"}},
		{"no end after three sectors", diskOf(form{1, 0, begins, text(112)}, form{1, 1, 0, text(112)}, form{1, 2, 0, text(112)}), nil},
		{"an end that is missing", diskOf(form{1, 0, begins, text(112)}, blank, c), nil},
		{"an end that is before a record", diskOf(a, form{1, 1, begins, text(112)}, c, form{1, 3, ends, "x"}), []string{"a"}},
		{"no beginning", diskOf(a, form{1, 1, ends, "x"}, c), []string{"a"}},
		{"no beginning, nor an end", diskOf(form{1, 0, 0, text(112)}, form{1, 1, ends, "x"}, c), nil},
		{"something after an end", diskOf(a, b, form{1, 2, ends, "x"}), []string{"a", "b"}},
		{"zero bytes in records", diskOf(form{1, 0, whole, "a\x00"}, form{1, 1, whole, "\x00"}), []string{"a\x00", "\x00"}},
	} {
		checkOpen(t, y.name, y.d, y.want...)
	}
}

// P5.1: generations of records increase or stay equal; those of the sectors of a record are equal.
func TestOpenGenerations(t *testing.T) {
	for _, y := range []struct {
		generations []uint32
		want        int
	}{
		{[]uint32{0, 1, 1}, 0}, {[]uint32{1, 1, 1}, 3}, {[]uint32{1, 2, 3}, 3}, {[]uint32{1, 3, 2}, 2}, {[]uint32{2, 1, 2}, 1}, {[]uint32{5, 5, 4}, 2},
		{[]uint32{1, 0, 1}, 1}, {[]uint32{9, lastGeneration, lastGeneration}, 3}, {[]uint32{lastGeneration, lastGeneration, lastGeneration - 1}, 2},
		{[]uint32{1 << 31, 1<<31 - 1, 1 << 31}, 1}, {[]uint32{255, 256, 65536}, 3}, {[]uint32{1 << 24, 1<<24 + 1, 1 << 16}, 2},
		{[]uint32{0x01020304, 0x01020304, 0x04030201}, 3}, {[]uint32{0x01020304, 0x04030201, 0x01020304}, 2},
	} {
		d := api.Disk{Left: -1}
		for k, g := range y.generations {
			d.Sectors = append(d.Sectors, form{g, k, whole, "abc"[k : k+1]}.bytes())
		}
		checkOpen(t, fmt.Sprint(y.generations), d, []string{"a", "b", "c"}[:y.want]...)
	}
	for _, g := range []uint32{1, 3, lastGeneration} {
		checkOpen(t, "another generation within a record", diskOf(form{2, 0, whole, ""}, form{2, 1, begins, text(112)}, form{g, 2, ends, "x"}), "")
		checkOpen(t, "another generation in the middle", diskOf(form{2, 0, begins, text(112)}, form{g, 1, 0, text(112)}, form{2, 2, ends, "x"}))
	}
}

// wrongSectors returns what differs from a good sector in one thing.
func wrongSectors(f form) map[string][]byte {
	with := func(change func(g *form)) []byte {
		g := f
		change(&g)
		return g.bytes()
	}
	l := map[string][]byte{
		"the next number":          with(func(g *form) { g.number++ }),
		"the number before":        with(func(g *form) { g.number-- }),
		"a number above 255":       with(func(g *form) { g.number += 256 }),
		"a swapped number":         with(func(g *form) { g.number *= 256 }),
		"generation 0":             with(func(g *form) { g.generation = 0 }),
		"a kind with 4":            with(func(g *form) { g.kind += 4 }),
		"a kind with 8":            with(func(g *form) { g.kind += 8 }),
		"a kind with 128":          with(func(g *form) { g.kind += 128 }),
		"another generation":       changed(f.bytes(), func(b []byte) { b[3]++ }),
		"a greater generation":     changed(f.bytes(), func(b []byte) { b[0] = 255 }),
		"another one at the end":   changed(f.bytes(), func(b []byte) { b[127]++ }),
		"a greater one at the end": changed(f.bytes(), func(b []byte) { b[124] = 255 }),
		"another checksum":         changed(f.bytes(), func(b []byte) { b[7]++ }),
		"a swapped checksum":       changed(f.bytes(), func(b []byte) { slices.Reverse(b[4:8]) }),
		"an inverted checksum":     changed(f.bytes(), func(b []byte) { b[4], b[5], b[6], b[7] = ^b[4], ^b[5], ^b[6], ^b[7] }),
		"another piece":            changed(f.bytes(), func(b []byte) { b[12]++ }),
		"zeros":                    make([]byte, 128),
		"torn zeros":               slices.Concat(f.bytes()[:64], make([]byte, 64)),
		"torn":                     slices.Concat(f.bytes()[:64], with(func(g *form) { g.generation-- })[64:]),
		"bytes of 255":             bytes.Repeat([]byte{255}, 128),
	}
	for _, n := range []byte{0, 1, 2, 4, 111, 113, 116, 117, 128, 255} {
		if f.kind < ends || n > 112 {
			l[fmt.Sprint("length ", n)] = forged(f, func(b []byte) { b[3] = n })
		}
	}
	for at := 4 + len(f.piece); at < 116; at++ {
		l[fmt.Sprint("after the piece ", at)] = forged(f, func(b []byte) { b[at] = 1 })
	}
	if len(f.piece) < 112 {
		l["a lesser length"] = forged(f, func(b []byte) { b[3]-- })
		l["no length"] = forged(f, func(b []byte) { b[3] = 0 })
	}
	return l
}

// P5.1: a sector that differs from the form in anything is not good, wherever in a record it is.
func TestOpenForm(t *testing.T) {
	forms := []form{{3, 0, whole, "z"}, {3, 1, begins, text(112)}, {3, 2, 0, text(112)}, {3, 3, ends, "abc"}, {3, 4, whole, "abc"}, {3, 5, whole, "y"}}
	var d api.Disk
	for _, f := range forms {
		d.Sectors = append(d.Sectors, f.bytes())
	}
	records := []string{"z", text(112) + text(112) + "abc", "abc", "y"}
	checkOpen(t, "nothing wrong", d, records...)
	for k, left := range map[int]int{1: 1, 2: 1, 3: 1, 4: 2} {
		for name, s := range wrongSectors(forms[k]) {
			y := d
			y.Sectors = slices.Clone(d.Sectors)
			y.Sectors[k] = s
			checkOpen(t, fmt.Sprint("sector ", k, ", ", name), y, records[:left]...)
		}
	}
}

// P5.1: if no record ends in a sector, 112 bytes are there, and at least 1 if none begins.
func TestOpenLengths(t *testing.T) {
	for _, n := range []int{0, 1, 111} {
		checkOpen(t, fmt.Sprint("no end, length ", n), diskOf(form{3, 0, whole, ""}, form{3, 1, begins, text(n)}, form{3, 2, ends, "y"}), "")
		checkOpen(t, fmt.Sprint("in the middle, length ", n), diskOf(form{3, 0, begins, text(112)}, form{3, 1, 0, text(n)}, form{3, 2, ends, "y"}))
	}
	checkOpen(t, "an end of no bytes", diskOf(form{3, 0, begins, text(112)}, form{3, 1, ends, ""}))
	for n := range 113 {
		want := []string{text(n)}
		checkOpen(t, fmt.Sprint("a record of ", n), diskOf(form{3, 0, whole, want[0]}), want...)
		if n > 0 {
			want = append(want, text(112)+text(n))
			checkOpen(t, fmt.Sprint("an end of ", n), diskOf(form{3, 0, whole, want[0]}, form{3, 1, begins, text(112)}, form{3, 2, ends, text(n)}), want...)
		}
	}
}

// P5.1: numbers of sectors have two bytes, the more significant one first.
func TestOpenNumbers(t *testing.T) {
	d := api.Disk{Left: -1}
	var want []string
	for k := range 4096 {
		d.Sectors = append(d.Sectors, form{1, k, whole, text(k % 113)}.bytes())
		want = append(want, text(k%113))
	}
	checkOpen(t, "4096 records", d, want...)
	for _, k := range []int{255, 256, 257, 511, 512, 4095} {
		y := d
		y.Sectors = slices.Clone(d.Sectors)
		y.Sectors[k] = form{1, k % 256, whole, text(k % 113)}.bytes()
		if k > 255 {
			checkOpen(t, "a number below 256", y, want[:k]...)
		}
		y.Sectors[k] = form{1, k + 256, whole, text(k % 113)}.bytes()
		checkOpen(t, "a greater number", y, want[:k]...)
	}
}

// wrongDisks returns disks that Open refuses, and with which errors.
func wrongDisks() map[api.Errno][]api.Disk {
	one := diskOf(form{1, 0, whole, "a"})
	with := func(f func(d *api.Disk)) api.Disk {
		d := one
		f(&d)
		return d
	}
	pending := []api.Write{{At: 0, Data: make([]byte, 128)}}
	return map[api.Errno][]api.Disk{
		api.ErrDisk: {
			{},
			{Left: -1},
			with(func(d *api.Disk) { d.Left = -2 }),
			with(func(d *api.Disk) { d.Left = 65537 }),
			with(func(d *api.Disk) { d.Sectors = [][]byte{make([]byte, 127)} }),
			with(func(d *api.Disk) { d.Sectors = [][]byte{make([]byte, 129)} }),
			with(func(d *api.Disk) { d.Sectors = [][]byte{nil} }),
			with(func(d *api.Disk) { d.Sectors = slices.Repeat(d.Sectors, 4097) }),
			with(func(d *api.Disk) { d.Pending = []api.Write{{At: 1, Data: make([]byte, 128)}} }),
			with(func(d *api.Disk) { d.Pending = []api.Write{{At: 0}} }),
			with(func(d *api.Disk) { d.Pending = slices.Repeat(pending, 4097) }),
			with(func(d *api.Disk) { d.Stopped = true }),
			with(func(d *api.Disk) { d.Stopped, d.Left = true, 0 }),
			with(func(d *api.Disk) { d.Stopped, d.Left, d.Pending = true, 0, pending }),
		},
		api.ErrArg: {
			with(func(d *api.Disk) { d.Pending = pending }),
			with(func(d *api.Disk) { d.Pending = slices.Repeat(pending, 4096) }),
			with(func(d *api.Disk) { d.Pending, d.Left = pending, 0 }),
		},
	}
}

// P5.1: Open refuses disks that are not valid, those that have stopped, and then those with pending writes.
func TestOpenErrors(t *testing.T) {
	for want, l := range wrongDisks() {
		for i, d := range l {
			if j, e := journal.Open(d); e != want || !sameJournal(j, api.Journal{}) {
				t.Errorf("%d: %q %d, not %d", i, j.Records, e, want)
			}
		}
	}
	for _, left := range []int{-1, 0, 1, 65536} {
		d := diskOf(form{1, 0, whole, "a"})
		d.Left, d.Pending = left, []api.Write{}
		checkOpen(t, "what is left", d, "a")
	}
}

func sizes(l ...int) [][]byte {
	var b [][]byte
	for _, n := range l {
		b = append(b, []byte(text(n)))
	}
	return b
}

// P5.2: which journals are valid, and how many bytes can be appended; 112 bytes are the most in a sector.
func TestCheckRoom(t *testing.T) {
	for i, y := range []struct {
		j    api.Journal
		left int // sectors, or -1 if the journal is not valid
	}{
		{api.Journal{}, -1},
		{api.Journal{Many: 1}, 1},
		{api.Journal{Many: 1, Records: [][]byte{}}, 1},
		{api.Journal{Many: 4096}, 4096},
		{api.Journal{Many: 4097}, -1},
		{api.Journal{Many: -1}, -1},
		{api.Journal{Many: math.MaxInt}, -1},
		{api.Journal{Many: math.MinInt}, -1},
		{api.Journal{Many: 1<<32 + 1}, -1},
		{api.Journal{Many: 3, Synced: -1}, -1},
		{api.Journal{Many: 3, Synced: 1}, -1},
		{api.Journal{Many: 3, Synced: math.MaxInt, Records: sizes(1)}, -1},
		{api.Journal{Many: 3, Synced: math.MinInt, Records: sizes(1)}, -1},
		{api.Journal{Many: 3, Synced: -1, Records: sizes(1)}, -1},
		{api.Journal{Many: 3, Synced: 0, Records: sizes(1)}, 2},
		{api.Journal{Many: 3, Synced: 1, Records: sizes(1)}, 2},
		{api.Journal{Many: 3, Synced: 2, Records: sizes(1)}, -1},
		{api.Journal{Many: 3, Synced: 2, Records: sizes(1, 2)}, 1},
		{api.Journal{Many: 3, Records: sizes(0, 0)}, 1},
		{api.Journal{Many: 3, Records: [][]byte{nil, nil, nil}}, 0},
		{api.Journal{Many: 3, Records: sizes(0, 0, 0, 0)}, -1},
		{api.Journal{Many: 3, Records: sizes(112)}, 2},
		{api.Journal{Many: 3, Records: sizes(113)}, 1},
		{api.Journal{Many: 3, Records: sizes(224)}, 1},
		{api.Journal{Many: 3, Records: sizes(225)}, 0},
		{api.Journal{Many: 3, Records: sizes(336)}, 0},
		{api.Journal{Many: 3, Records: sizes(337)}, -1},
		{api.Journal{Many: 3, Records: sizes(113, 112)}, 0},
		{api.Journal{Many: 3, Records: sizes(112, 113), Synced: 2}, 0},
		{api.Journal{Many: 3, Records: sizes(113, 113)}, -1},
		{api.Journal{Many: 3, Records: sizes(0, 225)}, -1},
		{api.Journal{Many: 4096, Records: sizes(112 * 4096)}, 0},
		{api.Journal{Many: 4096, Records: sizes(112*4096 - 112)}, 1},
		{api.Journal{Many: 4096, Records: sizes(112*4096 + 1)}, -1},
		{api.Journal{Many: 4096, Records: make([][]byte, 4096), Synced: 4096}, 0},
		{api.Journal{Many: 4096, Records: make([][]byte, 4097), Synced: 4096}, -1},
	} {
		want := api.ErrArg
		if y.left >= 0 {
			want = api.OK
		}
		if e := journal.Check(y.j); e != want || checking(y.j) != want {
			t.Errorf("%d: Check: %d, not %d", i, e, want)
		}
		if n := journal.Room(y.j); n != max(0, 112*y.left) {
			t.Errorf("%d: Room: %d", i, n)
		}
		appendAround(t, i, y.j, y.left)
	}
}

// appendAround appends as much as there is place for, and more.
func appendAround(t *testing.T, i int, j api.Journal, left int) {
	t.Helper()
	for _, n := range []int{0, 1, 112*left - 1, 112 * left, 112*left + 1, 112 * 5000} {
		if n < 0 {
			continue
		}
		b := []byte(text(n))
		got, e := journal.Append(j, b)
		want := api.Journal{Records: slices.Concat(j.Records, [][]byte{b}), Many: j.Many, Synced: j.Synced}
		wantE := api.OK
		if left < 0 {
			want, wantE = api.Journal{}, api.ErrArg
		} else if needs(n) > left {
			want, wantE = api.Journal{}, api.ErrLimit
		}
		if e != wantE || !sameJournal(got, want) {
			t.Errorf("%d: Append of %d bytes: %d, not %d", i, n, e, wantE)
		}
	}
}

// P5.3: what Sync writes, for records of all lengths up to four sectors, after others.
func TestSync(t *testing.T) {
	for n := range 450 {
		b := newBench(t, 12)
		b.add(text(n))
		b.sync(-1)
		b.add("")
		b.add(text(n % 120))
		b.sync(20)
		want := slices.Concat(forms(text(n), 0, 1), forms("", needs(n), 2), forms(text(n%120), needs(n)+1, 2))
		d := api.Disk{Left: 20 - len(want) + needs(n)}
		for _, f := range want {
			d.Sectors = append(d.Sectors, f.bytes())
		}
		for len(d.Sectors) < 12 {
			d.Sectors = append(d.Sectors, make([]byte, 128))
		}
		if !sameDisk(b.d, d) {
			t.Fatalf("%d bytes", n)
		}
	}
}

// P5.3: a journal whose records are all synced, or that has none, is returned as it is, with its disk.
func TestSyncNothing(t *testing.T) {
	for _, left := range []int{-1, 0, 1, 65536} {
		d := diskOf(form{4, 0, whole, "a"}, bytes.Repeat([]byte{9}, 128))
		d.Left = left
		j := api.Journal{Records: sizes(0), Many: 2, Synced: 1}
		j.Records[0] = []byte("a")
		if x, y, e := journal.Sync(j, d); e != api.OK || !sameJournal(x, j) || !sameDisk(y, d) {
			t.Errorf("%d left: %q %v %d", left, x.Records, y, e)
		}
		d.Sectors[0] = make([]byte, 128)
		if x, y, e := journal.Sync(api.Journal{Many: 2}, d); e != api.OK || !sameJournal(x, api.Journal{Many: 2}) || !sameDisk(y, d) {
			t.Errorf("no records, %d left: %q %v %d", left, x.Records, y, e)
		}
	}
}

// P5.3: the generation is greater than all numbers at the beginnings and at the ends of all sectors, whatever else is there.
func TestSyncGeneration(t *testing.T) {
	number := func(at int, b ...byte) []byte {
		return changed(make([]byte, 128), func(s []byte) { copy(s[at:], b) })
	}
	zeros := make([]byte, 128)
	for i, y := range []struct {
		last, other []byte
		want        uint32
	}{
		{zeros, zeros, 1},
		{number(0, 0, 0, 0, 7), zeros, 8},
		{number(124, 0, 0, 0, 7), zeros, 8},
		{number(0, 0, 0, 0, 7), number(124, 0, 0, 0, 9), 10},
		{number(0, 0, 0, 0, 9), number(124, 0, 0, 0, 7), 10},
		{number(124, 0, 0, 0, 9), number(0, 0, 0, 0, 7), 10},
		{number(0, 1, 2, 3, 4), zeros, 0x01020305},
		{number(124, 1, 2, 3, 4), zeros, 0x01020305},
		{number(0, 0, 0, 0, 255), zeros, 256},
		{number(124, 0, 0, 255, 255), zeros, 65536},
		{number(0, 127, 255, 255, 255), zeros, 1 << 31},
		{number(0, 255, 255, 255, 254), zeros, lastGeneration},
		{number(124, 255, 255, 255, 254), zeros, lastGeneration},
		{number(4, bytes.Repeat([]byte{255}, 120)...), zeros, 1},
		{number(0, 255, 255, 255, 255), zeros, 0},
		{number(124, 255, 255, 255, 255), zeros, 0},
		{zeros, number(0, 255, 255, 255, 255), 0},
		{zeros, number(124, 255, 255, 255, 255), 0},
	} {
		d := diskOf(zeros, y.other, y.last)
		j := api.Journal{Records: [][]byte{[]byte("a")}, Many: 3}
		x, z, e := journal.Sync(j, d)
		if y.want == 0 {
			_, _, f := journal.Sync(api.Journal{Many: 3}, d)
			if e != api.ErrLog || f != api.ErrLog || !sameJournal(x, api.Journal{}) || !sameDisk(z, api.Disk{}) {
				t.Errorf("%d: %d %d", i, e, f)
			}
			continue
		}
		if e != api.OK || !sameDisk(z, diskOf(form{y.want, 0, whole, "a"}, y.other, y.last)) {
			t.Errorf("%d: %d %v", i, e, z.Sectors)
		}
	}
}

// P5.3: a full disk of the last generation cannot be written again, but one before it can.
func TestLastGeneration(t *testing.T) {
	d := diskOf(form{lastGeneration - 1, 0, whole, "a"}, make([]byte, 128), make([]byte, 128))
	j, _ := journal.Open(d)
	j, _ = journal.Append(j, []byte("b"))
	j, d, e := journal.Sync(j, d)
	if e != api.OK || !sameDisk(d, diskOf(form{lastGeneration - 1, 0, whole, "a"}, form{lastGeneration, 1, whole, "b"}, make([]byte, 128))) {
		t.Fatal(e)
	}
	checkOpen(t, "the last generation", d, "a", "b")
	for range 2 {
		if x, y, e := journal.Sync(j, d); e != api.ErrLog || !sameJournal(x, api.Journal{}) || !sameDisk(y, api.Disk{}) {
			t.Errorf("%d records: %d", len(j.Records), e)
		}
		j, _ = journal.Append(j, []byte("c"))
	}
}

// P5.3: the errors of Sync, each of which comes before all that are after it.
func TestSyncErrors(t *testing.T) {
	good := diskOf(form{1, 0, whole, "a"}, form{1, 1, begins, text(112)}, form{1, 2, ends, "y"}, make([]byte, 128))
	full := diskOf(form{1, 0, whole, "a"}, bytes.Repeat([]byte{255}, 128))
	journals := func(many int) []api.Journal {
		l := []api.Journal{{Many: many, Synced: 1}, {Many: many, Synced: -1}, {Many: 4097}}
		for _, r := range [][]string{nil, {"a"}, {"b"}, {"a", text(112) + "y"}, {"a", text(112) + "z"}, {"a", text(112)}, {text(112) + "y", "a"}, {"a", text(112) + "y", ""}, {"", "a"}} {
			for synced := range len(r) + 1 {
				l = append(l, api.Journal{Records: asBytes(r), Many: many, Synced: synced})
			}
		}
		return l
	}
	disks := slices.Concat([]api.Disk{good, full}, wrongDisks()[api.ErrDisk], wrongDisks()[api.ErrArg])
	met := map[api.Errno]int{}
	for many := range 6 {
		for i, j := range journals(many) {
			for k, d := range disks {
				x, y, e := journal.Sync(j, d)
				wantX, wantY, want := syncing(j, d)
				if met[e]++; e != want || !sameJournal(x, wantX) || !sameDisk(y, wantY) {
					t.Errorf("%d %d %d: %d, not %d", many, i, k, e, want)
				}
			}
		}
	}
	if met[api.OK] == 0 || met[api.ErrArg] == 0 || met[api.ErrDisk] == 0 || met[api.ErrLog] == 0 {
		t.Error(met)
	}
}

// P5.3: which errors come first, by hand.
func TestSyncOrder(t *testing.T) {
	a := diskOf(form{1, 0, whole, "a"})
	stopped, pending, last := a, a, diskOf(form{lastGeneration, 0, whole, "a"})
	stopped.Stopped = true
	pending.Pending = []api.Write{{At: 0, Data: make([]byte, 128)}}
	record := func(s string, many, synced int) api.Journal {
		return api.Journal{Records: asBytes([]string{s}), Many: many, Synced: synced}
	}
	for i, y := range []struct {
		j    api.Journal
		d    api.Disk
		want api.Errno
	}{
		{record("a", 1, 1), a, api.OK},
		{record("a", 1, 2), api.Disk{}, api.ErrArg},
		{record("a", 0, 1), stopped, api.ErrArg},
		{record("a", 1, 1), api.Disk{}, api.ErrDisk},
		{record("a", 2, 1), api.Disk{}, api.ErrDisk},
		{record("a", 2, 1), stopped, api.ErrDisk},
		{record("b", 1, 1), stopped, api.ErrDisk},
		{record("a", 2, 1), a, api.ErrArg},
		{record("b", 2, 1), a, api.ErrArg},
		{record("a", 1, 1), pending, api.ErrArg},
		{record("b", 1, 1), pending, api.ErrArg},
		{record("b", 1, 1), a, api.ErrLog},
		{record("a", 1, 0), a, api.ErrLog},
		{api.Journal{Many: 1}, a, api.ErrLog},
		{record("a", 1, 1), diskOf(make([]byte, 128)), api.ErrLog},
		{record("a", 1, 1), last, api.ErrLog},
	} {
		if _, _, e := journal.Sync(y.j, y.d); e != y.want {
			t.Errorf("%d: %d, not %d", i, e, y.want)
		}
	}
}

// P5.4: a disk that stops at each possible write of each possible later sync, three times one after the other.
func TestStops(t *testing.T) {
	lengths := [][]int{{1, 113, 0}, {300, 2}, {0, 0, 225}}
	for first := range 6 {
		for second := range 6 {
			for third := range 6 {
				b := newBench(t, 20)
				b.add("before")
				b.sync(-1)
				for i, left := range []int{first, second, third} {
					for k, n := range lengths[i] {
						b.add(text(n + k + i)[k+i:])
					}
					b.sync(left)
				}
				b.add("after")
				b.sync(-1)
			}
		}
	}
}

// P5.4: a torn sector is not read, whichever record lies there, and what was there before.
func TestTorn(t *testing.T) {
	for _, n := range []int{0, 1, 50, 52, 53, 112, 113} {
		for _, old := range []string{"", text(1), text(112), text(300)} {
			b := newBench(t, 8)
			b.add("kept")
			b.sync(-1)
			b.add(old)
			b.add(old + "!")
			b.sync(needs(len(old)) - 1)
			b.add(text(n))
			b.sync(0)
			b.add(text(n))
			b.sync(-1)
			b.add("later")
			b.sync(-1)
			if !slices.Equal(b.synced, []string{"kept", text(n), "later"}) {
				t.Errorf("%q", b.synced)
			}
		}
	}
}

// P5.4: if a byte of a sector that belongs to a record is changed, the records before it remain.
func TestByte(t *testing.T) {
	b := newBench(t, 8)
	for i, r := range []string{"a", text(113), "", text(300)} {
		b.add(r)
		if i == 1 {
			b.sync(-1)
		}
	}
	b.sync(-1)
	before := []int{0, 1, 1, 2, 3, 3, 3}
	for k, n := range before {
		for at := range 128 {
			for _, by := range []byte{1, 2, 3, 4, 7, 128, 255, byte(at)} {
				if by == 0 {
					continue
				}
				d := b.d
				d.Sectors = slices.Clone(d.Sectors)
				d.Sectors[k] = changed(d.Sectors[k], func(s []byte) { s[at] ^= by })
				checkOpen(t, fmt.Sprintf("sector %d, byte %d, xor %d", k, at, by), d, b.synced[:n]...)
			}
		}
	}
	// A sector that belongs to no record can hold anything.
	b.d.Sectors[7] = bytes.Repeat([]byte{3}, 128)
	checkOpen(t, "a free sector", b.d, b.synced...)
}

// script yields numbers from a list of bytes, and then 0.
type script []byte

func (s *script) next(below int) int {
	if len(*s) == 0 {
		return 0
	}
	b := (*s)[0]
	*s = (*s)[1:]
	return int(b) % below
}

// play keeps a journal through syncs and crashes.
func play(t *testing.T, l []byte) {
	s := script(l)
	b := newBench(t, 1+s.next(24))
	for len(s) > 0 {
		switch s.next(8) {
		default:
			b.add(text(s.next(9) + 56*s.next(9)))
		case 0, 1:
			b.sync(-1)
		case 2, 3:
			b.sync(s.next(7))
		case 4:
			b.d = disk.Restart(b.d)
			b.reopen()
		}
	}
	b.sync(-1)
}

// forge makes a disk whose sectors are good, or nearly so, and opens it.
func forge(t *testing.T, l []byte) {
	s := script(l)
	d := api.Disk{Left: -1}
	f := form{generation: 1}
	open := false
	for k := 0; len(s) > 0 && k < 64; k++ {
		f.number, f.kind, f.piece = k, whole, text(s.next(113))
		end := s.next(2) == 0
		if !end {
			f.piece = text(112)
			f.kind -= ends
		}
		if open {
			f.kind -= begins
		}
		open = !end
		if !open {
			f.generation += uint32(s.next(8) / 7)
		}
		d.Sectors = append(d.Sectors, perturbed(&s, f))
	}
	if len(d.Sectors) > 0 {
		want, wantE := opening(d)
		if j, e := journal.Open(d); e != wantE || !sameJournal(j, want) {
			t.Fatalf("%x: %q %d, not %q %d", l, j.Records, e, want.Records, wantE)
		}
	}
}

// perturbed returns the bytes of a sector that is seldom not as it should be.
func perturbed(s *script, f form) []byte {
	switch s.next(32) {
	case 0:
		f.kind = byte(s.next(6))
	case 1:
		f.generation += uint32(s.next(3)) - 1
	case 2:
		f.number += s.next(3) - 1
	case 3:
		f.piece = f.piece[:s.next(len(f.piece)+1)]
	case 4:
		return forged(f, func(b []byte) { b[s.next(116)] = byte(s.next(256)) })
	case 5:
		return changed(f.bytes(), func(b []byte) { b[s.next(128)] = byte(s.next(256)) })
	case 6:
		return make([]byte, 128)
	}
	return f.bytes()
}

func random(r *rand.Rand, n int) []byte {
	l := make([]byte, r.Intn(n))
	r.Read(l)
	return l
}

// P5.1 to P5.4: journals keep their records through random syncs and crashes, and do what the definitions say.
func TestPlay(t *testing.T) {
	r := rand.New(rand.NewSource(5))
	for range 3000 {
		play(t, random(r, 100))
	}
}

// P5.1: disks of random sectors have the records that the definition says.
func TestForge(t *testing.T) {
	r := rand.New(rand.NewSource(6))
	for range 20000 {
		forge(t, random(r, 60))
	}
}

func FuzzPlay(f *testing.F) {
	f.Add([]byte{9, 5, 1, 8, 5, 0, 0, 2, 1, 5, 3, 3, 0})
	f.Fuzz(play)
}

func FuzzForge(f *testing.F) {
	f.Add([]byte{1, 0, 0, 9, 112, 1, 9, 3, 0, 7, 9})
	f.Fuzz(forge)
}

// P5.3 and P5.4: a disk of the greatest size, in one sync, of one record or of many, and torn at its last sector.
func TestGreatest(t *testing.T) {
	for _, l := range [][]string{{text(112 * 4096)}, slices.Repeat([]string{"a"}, 4096), {text(112 * 2000), "", text(112 * 2095)}} {
		d, _ := disk.New(4096)
		j := api.Journal{Records: asBytes(l), Many: 4096}
		if n := journal.Room(j); n != 0 {
			t.Errorf("Room: %d", n)
		}
		x, y, e := journal.Sync(j, d)
		if e != api.OK || x.Synced != len(l) || y.Left != -1 {
			t.Fatal(e)
		}
		checkOpen(t, "a full disk", y, l...)
		d.Left = 4095
		_, y, e = journal.Sync(j, d)
		if e != api.ErrDisk || !y.Stopped {
			t.Fatal(e)
		}
		checkOpen(t, "a full disk but for its last sector", disk.Restart(y), l[:len(l)-1]...)
	}
}

// R2: results that were returned stay as they are, even if their lists have room for more, and arguments do, too.
func TestPurity(t *testing.T) {
	j := api.Journal{Records: make([][]byte, 0, 8), Many: 9}
	data := []byte("abc")
	a, _ := journal.Append(j, data)
	b, _ := journal.Append(j, []byte("b"))
	a1, _ := journal.Append(a, []byte("1"))
	a2, _ := journal.Append(a, []byte("2"))
	data[0] = '!'
	d, _ := disk.New(9)
	s1, d1, e1 := journal.Sync(a1, d)
	s2, d2, e2 := journal.Sync(a2, d)
	for i, y := range []struct {
		got  api.Journal
		want []string
	}{{j, nil}, {a, []string{"abc"}}, {b, []string{"b"}}, {a1, []string{"abc", "1"}}, {a2, []string{"abc", "2"}}, {s1, []string{"abc", "1"}}, {s2, []string{"abc", "2"}}} {
		if !slices.Equal(asTexts(y.got.Records), y.want) {
			t.Errorf("%d: %q, not %q", i, y.got.Records, y.want)
		}
	}
	if e1 != api.OK || e2 != api.OK || a1.Synced != 0 || s1.Synced != 2 {
		t.Error(e1, e2)
	}
	checkOpen(t, "the disk", d)
	checkOpen(t, "the first", d1, "abc", "1")
	checkOpen(t, "the second", d2, "abc", "2")
	opened, _ := journal.Open(d1)
	d1.Sectors[0][12] = '!'
	if string(opened.Records[0]) != "abc" {
		t.Error("records change with their disk")
	}
}

// The examples of the chapter.
func TestExamples(t *testing.T) {
	if n := journal.Room(api.Journal{Many: 1}); n != 112 {
		t.Errorf("Room: %d", n)
	}
	if x, e := journal.Append(api.Journal{Many: 1}, make([]byte, 113)); e != api.ErrLimit || !sameJournal(x, api.Journal{}) {
		t.Errorf("Append: %d", e)
	}
	if e := journal.Check(api.Journal{}); e != api.ErrArg {
		t.Errorf("Check: %d", e)
	}
	b := newBench(t, 4)
	b.add("a")
	b.sync(-1)
	b.add("b")
	b.sync(0)
	if !slices.Equal(b.synced, []string{"a"}) {
		t.Errorf("%q", b.synced)
	}
}
