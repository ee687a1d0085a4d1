package disk_test

import (
	"bytes"
	"math"
	"math/rand"
	"slices"
	"testing"

	"podium/api"
	"podium/disk"
)

// sector returns a sector that begins with these bytes.
func sector(b ...byte) []byte { return append(b, make([]byte, 128-len(b))...) }

// full returns a sector of equal bytes.
func full(b byte) []byte { return bytes.Repeat([]byte{b}, 128) }

// torn returns a sector whose halves consist of equal bytes.
func torn(a, b byte) []byte {
	return append(bytes.Repeat([]byte{a}, 64), bytes.Repeat([]byte{b}, 64)...)
}

func sectors(l ...[]byte) [][]byte { return l }

// many returns a list of n sectors, or writes, that are equal.
func many[T any](n int, x T) []T { return slices.Repeat([]T{x}, n) }

func write(at int) api.Write { return api.Write{At: at, Data: sector()} }

func one() api.Disk { return api.Disk{Sectors: sectors(sector()), Left: -1} }

// with returns a disk with one sector and with a change.
func with(f func(*api.Disk)) api.Disk {
	d := one()
	f(&d)
	return d
}

// P4.1: New makes disks of 1 to 4096 sectors of zero bytes.
func TestNew(t *testing.T) {
	for _, n := range []int{1, 2, 3, 127, 128, 129, 4095, 4096} {
		d, e := disk.New(n)
		if e != api.OK || !same(d, api.Disk{Sectors: many(n, sector()), Left: -1}) {
			t.Errorf("New(%d): %d", n, e)
		}
		if e := disk.Check(d); e != api.OK {
			t.Errorf("New(%d): Check: %d", n, e)
		}
	}
	for _, n := range []int{0, -1, -4096, 4097, 65536, 1<<32 + 1, math.MinInt, math.MaxInt} {
		if d, e := disk.New(n); e != api.ErrArg || !zero(d) {
			t.Errorf("New(%d): %d sectors, %d", n, len(d.Sectors), e)
		}
	}
}

func validDisks() []api.Disk {
	return []api.Disk{
		one(),
		{Sectors: many(4096, sector()), Left: -1},
		{Sectors: sectors(full(1), full(2)), Pending: []api.Write{write(1), {At: 0, Data: full(9)}}, Left: -1},
		with(func(d *api.Disk) { d.Left = 0 }),
		with(func(d *api.Disk) { d.Left = 65536 }),
		with(func(d *api.Disk) { d.Stopped = true }),
		with(func(d *api.Disk) { d.Stopped, d.Left, d.Pending = true, 7, many(4096, write(0)) }),
		with(func(d *api.Disk) { d.Pending = []api.Write{} }),
		{Sectors: many(4096, sector()), Pending: many(4096, write(4095)), Left: -1},
	}
}

func invalidDisks() []api.Disk {
	return []api.Disk{
		{},
		{Left: -1},
		{Sectors: sectors(), Left: -1, Stopped: true},
		{Sectors: many(4097, sector()), Left: -1},
		{Sectors: many(5000, sector()), Left: -1},
		{Sectors: sectors(nil), Left: -1},
		{Sectors: sectors(make([]byte, 127)), Left: -1},
		{Sectors: sectors(make([]byte, 129)), Left: -1},
		{Sectors: sectors(sector(), make([]byte, 127)), Left: -1},
		{Sectors: sectors(make([]byte, 127), sector()), Left: -1},
		{Sectors: sectors(sector(), make([]byte, 129), sector()), Left: -1},
		with(func(d *api.Disk) { d.Left = -2 }),
		with(func(d *api.Disk) { d.Left = 65537 }),
		with(func(d *api.Disk) { d.Left = math.MinInt }),
		with(func(d *api.Disk) { d.Left = math.MaxInt }),
		with(func(d *api.Disk) { d.Pending = many(4097, write(0)) }),
		with(func(d *api.Disk) { d.Pending = []api.Write{write(1)} }),
		with(func(d *api.Disk) { d.Pending = []api.Write{write(-1)} }),
		with(func(d *api.Disk) { d.Pending = []api.Write{write(math.MaxInt)} }),
		with(func(d *api.Disk) { d.Pending = []api.Write{write(0), write(1), write(0)} }),
		with(func(d *api.Disk) { d.Pending = []api.Write{{At: 0}} }),
		with(func(d *api.Disk) { d.Pending = []api.Write{{Data: make([]byte, 127)}} }),
		with(func(d *api.Disk) { d.Pending = []api.Write{{Data: make([]byte, 129)}} }),
		with(func(d *api.Disk) { d.Pending = []api.Write{write(0), {Data: make([]byte, 129)}} }),
		with(func(d *api.Disk) { d.Stopped, d.Left = true, -2 }),
	}
}

// P4.1: which disks are valid.
func TestCheck(t *testing.T) {
	for i, d := range validDisks() {
		if e := disk.Check(d); e != api.OK {
			t.Errorf("valid disk %d: %d", i, e)
		}
	}
	for i, d := range invalidDisks() {
		if e := disk.Check(d); e != api.ErrDisk {
			t.Errorf("invalid disk %d: %d", i, e)
		}
	}
}

// refuse checks that nothing can be done with a disk, whatever the other arguments are.
func refuse(t *testing.T, name string, i int, d api.Disk) {
	t.Helper()
	for _, at := range []int{-1, 0, 1} {
		if b, e := disk.Read(d, at); e != api.ErrDisk || len(b) != 0 {
			t.Errorf("%s %d: Read(%d): %v %d", name, i, at, b, e)
		}
		for _, n := range []int{0, 128, 129} {
			if x, e := disk.Write(d, at, make([]byte, n)); e != api.ErrDisk || !zero(x) {
				t.Errorf("%s %d: Write(%d, %d bytes): %d", name, i, at, n, e)
			}
		}
	}
	if x, e := disk.Sync(d); e != api.ErrDisk || !zero(x) {
		t.Errorf("%s %d: Sync: %d", name, i, e)
	}
	for _, left := range []int{-1, 0, 1, 65536, 65537} {
		if x, e := disk.Stop(d, left); e != api.ErrDisk || !zero(x) {
			t.Errorf("%s %d: Stop(%d): %d", name, i, left, e)
		}
	}
}

// P4.2 and P4.3: disks that are not valid, and disks that have stopped, are refused before anything else is.
func TestRefuse(t *testing.T) {
	for i, d := range invalidDisks() {
		refuse(t, "invalid disk", i, d)
	}
	for i, d := range validDisks() {
		d.Stopped = true
		refuse(t, "stopped disk", i, d)
	}
}

// P4.1: Restart accepts all disks, and keeps their sectors.
func TestRestart(t *testing.T) {
	if x := disk.Restart(api.Disk{}); !same(x, api.Disk{Left: -1}) {
		t.Errorf("the zero disk: %v", x)
	}
	for _, d := range slices.Concat(validDisks(), invalidDisks()) {
		kept := copied(d)
		x := disk.Restart(d)
		if !same(x, api.Disk{Sectors: d.Sectors, Left: -1}) || !same(d, kept) {
			t.Errorf("%d sectors, %d writes: %d %v", len(d.Sectors), len(d.Pending), x.Left, x.Stopped)
		}
	}
	b := newBench(t, 2)
	b.write(0, []byte{1})
	b.sync()
	b.write(0, []byte{2})
	b.write(1, []byte{3})
	b.restart()
	if !same(b.d, api.Disk{Sectors: sectors(sector(1), sector()), Left: -1}) {
		t.Error("writes that were not synced are not lost")
	}
}

func checkRead(t *testing.T, d api.Disk, at int, want []byte, wantE api.Errno) {
	t.Helper()
	if b, e := disk.Read(d, at); e != wantE || !bytes.Equal(b, want) {
		t.Errorf("Read(%d): %v %d, not %v %d", at, b, e, want, wantE)
	}
}

// P4.2: Read returns the last write to a sector, or the sector.
func TestRead(t *testing.T) {
	d := api.Disk{Sectors: sectors(full(1), full(2), full(3)), Left: -1}
	for at := range 3 {
		checkRead(t, d, at, full(byte(at+1)), api.OK)
	}
	d.Pending = []api.Write{{At: 0, Data: full(4)}, {At: 1, Data: full(5)}, {At: 0, Data: full(6)}, {At: 1, Data: full(7)}, {At: 0, Data: torn(8, 9)}}
	checkRead(t, d, 0, torn(8, 9), api.OK)
	checkRead(t, d, 1, full(7), api.OK)
	checkRead(t, d, 2, full(3), api.OK)
	for _, at := range []int{-1, 3, 4, math.MinInt, math.MaxInt, 1 << 32} {
		checkRead(t, d, at, nil, api.ErrDisk)
	}
	d.Left = 0
	checkRead(t, d, 0, torn(8, 9), api.OK)
	checkRead(t, one(), 1, nil, api.ErrDisk)
}

// P4.2: Write adds a write with zero bytes at its end.
func TestWrite(t *testing.T) {
	d := api.Disk{Sectors: sectors(full(1), full(2)), Pending: []api.Write{{At: 1, Data: full(3)}}, Left: 5}
	for n := range 129 {
		data := bytes.Repeat([]byte{7}, n)
		want := copied(d)
		want.Pending = append(want.Pending, api.Write{At: n % 2, Data: sector(bytes.Clone(data)...)})
		x, e := disk.Write(d, n%2, data)
		if e != api.OK || !same(x, want) {
			t.Errorf("%d bytes: %d", n, e)
		}
		checkRead(t, x, n%2, sector(data...), api.OK)
	}
	for _, n := range []int{129, 130, 256, 65536} {
		if x, e := disk.Write(d, 0, make([]byte, n)); e != api.ErrArg || !zero(x) {
			t.Errorf("%d bytes: %d", n, e)
		}
	}
	for _, at := range []int{-1, 2, math.MinInt, math.MaxInt, 1 << 32} {
		for _, n := range []int{0, 1, 128, 129} {
			if x, e := disk.Write(d, at, make([]byte, n)); e != api.ErrDisk || !zero(x) {
				t.Errorf("at %d, %d bytes: %d", at, n, e)
			}
		}
	}
}

// P4.2: 4096 writes can be pending.
func TestWriteLimit(t *testing.T) {
	d := api.Disk{Sectors: sectors(sector(), sector()), Pending: many(4095, write(1)), Left: -1}
	d, e := disk.Write(d, 0, []byte{1})
	if e != api.OK || len(d.Pending) != 4096 || !sameWrite(d.Pending[4095], api.Write{At: 0, Data: sector(1)}) {
		t.Fatalf("the last write: %d", e)
	}
	for _, x := range []struct {
		at, n int
		want  api.Errno
	}{{0, 0, api.ErrLimit}, {1, 128, api.ErrLimit}, {0, 129, api.ErrArg}, {2, 0, api.ErrDisk}, {-1, 129, api.ErrDisk}} {
		if y, e := disk.Write(d, x.at, make([]byte, x.n)); e != x.want || !zero(y) {
			t.Errorf("at %d, %d bytes: %d, not %d", x.at, x.n, e, x.want)
		}
	}
	d, e = disk.Sync(d)
	if e != api.OK || !same(d, api.Disk{Sectors: sectors(sector(1), sector()), Left: -1}) {
		t.Errorf("Sync: %d", e)
	}
	if _, e := disk.Write(d, 0, nil); e != api.OK {
		t.Errorf("after a sync: %d", e)
	}
}

// P4.3: syncs by hand.
func TestSync(t *testing.T) {
	old := sectors(full(1), full(2), full(3))
	pending := []api.Write{{At: 2, Data: full(4)}, {At: 0, Data: full(5)}, {At: 2, Data: torn(6, 7)}}
	for _, x := range []struct {
		name    string
		pending []api.Write
		left    int
		want    api.Disk
		e       api.Errno
	}{
		{"no end", pending, -1, api.Disk{Sectors: sectors(full(5), full(2), torn(6, 7)), Left: -1}, api.OK},
		{"none left", pending, 0, api.Disk{Sectors: sectors(full(1), full(2), torn(4, 3)), Stopped: true}, api.ErrDisk},
		{"1 left", pending, 1, api.Disk{Sectors: sectors(torn(5, 1), full(2), full(4)), Stopped: true}, api.ErrDisk},
		{"2 left", pending, 2, api.Disk{Sectors: sectors(full(5), full(2), torn(6, 4)), Stopped: true}, api.ErrDisk},
		{"3 left", pending, 3, api.Disk{Sectors: sectors(full(5), full(2), torn(6, 7))}, api.OK},
		{"4 left", pending, 4, api.Disk{Sectors: sectors(full(5), full(2), torn(6, 7)), Left: 1}, api.OK},
		{"most left", pending, 65536, api.Disk{Sectors: sectors(full(5), full(2), torn(6, 7)), Left: 65533}, api.OK},
		{"nothing, no end", nil, -1, api.Disk{Sectors: old, Left: -1}, api.OK},
		{"nothing, none left", nil, 0, api.Disk{Sectors: old}, api.OK},
		{"nothing, 1 left", []api.Write{}, 1, api.Disk{Sectors: old, Left: 1}, api.OK},
	} {
		d := api.Disk{Sectors: old, Pending: x.pending, Left: x.left}
		kept := copied(d)
		got, e := disk.Sync(d)
		if e != x.e || !same(got, x.want) {
			t.Errorf("%s: %v %d", x.name, got, e)
		}
		if !same(d, kept) {
			t.Errorf("%s: the disk was changed", x.name)
		}
	}
}

// P4.3: what a torn write leaves, byte by byte.
func TestTorn(t *testing.T) {
	var old, data [128]byte
	for i := range 128 {
		old[i], data[i] = byte(i), byte(i+128)
	}
	d := api.Disk{Sectors: sectors(old[:]), Pending: []api.Write{{Data: data[:]}}}
	x, e := disk.Sync(d)
	if e != api.ErrDisk || len(x.Sectors) != 1 || len(x.Sectors[0]) != 128 {
		t.Fatalf("Sync: %v %d", x, e)
	}
	for i, b := range x.Sectors[0] {
		want := old[i]
		if i <= 63 {
			want = data[i]
		}
		if b != want {
			t.Errorf("byte %d: %d, not %d", i, b, want)
		}
	}
}

// P4.3: Stop sets how many writes are left, from 0 to 65536.
func TestStop(t *testing.T) {
	d := api.Disk{Sectors: sectors(full(1)), Pending: []api.Write{write(0)}, Left: -1}
	for _, now := range []int{-1, 0, 9, 65536} {
		d.Left = now
		for _, left := range []int{0, 1, 2, 4096, 65535, 65536} {
			want := copied(d)
			want.Left = left
			if x, e := disk.Stop(d, left); e != api.OK || !same(x, want) {
				t.Errorf("Stop(%d): %v %d", left, x, e)
			}
		}
		for _, left := range []int{-1, -2, 65537, 1 << 32, math.MinInt, math.MaxInt} {
			if x, e := disk.Stop(d, left); e != api.ErrArg || !zero(x) {
				t.Errorf("Stop(%d): %v %d", left, x, e)
			}
		}
	}
}

// places yields all lists of n indices of sectors.
func places(n, sectors int) [][]int {
	l := [][]int{nil}
	for range n {
		var next [][]int
		for _, p := range l {
			for at := range sectors {
				next = append(next, append(slices.Clone(p), at))
			}
		}
		l = next
	}
	return l
}

// P4.3 and P4.4: all orders of up to five writes to three sectors, with every Left, after something was synced.
func TestSyncAll(t *testing.T) {
	for n := range 6 {
		for _, p := range places(n, 3) {
			for left := -1; left <= n+1; left++ {
				b := newBench(t, 3)
				b.write(1, full(200))
				b.sync()
				if left >= 0 {
					b.stop(left)
				}
				for i, at := range p {
					b.write(at, full(byte(i+1)))
				}
				b.sync()
				b.sync()
				b.restart()
				b.end()
			}
		}
	}
}

// P4.4: writes that are synced one by one leave the same disk as writes that are synced together, if it does not stop.
func TestOneByOne(t *testing.T) {
	for _, left := range []int{-1, 5, 6, 100} {
		for _, p := range places(5, 3) {
			one, _ := disk.New(3)
			one.Left = left
			together := one
			for i, at := range p {
				together, _ = disk.Write(together, at, full(byte(i+1)))
				one, _ = disk.Write(one, at, full(byte(i+1)))
				var e api.Errno
				if one, e = disk.Sync(one); e != api.OK {
					t.Fatalf("%v, %d left: %d", p, left, e)
				}
			}
			together, e := disk.Sync(together)
			if e != api.OK || !same(one, together) {
				t.Fatalf("%v, %d left: %d", p, left, e)
			}
		}
	}
}

// P4.4: a disk that stops keeps what was synced before in all sectors that the sync does not write.
func TestKept(t *testing.T) {
	b := newBench(t, 8)
	for at := range 8 {
		b.write(at, full(byte(at+1)))
	}
	b.sync()
	b.stop(2)
	for _, at := range []int{3, 5, 6, 7} {
		b.write(at, full(byte(at+101)))
	}
	b.sync()
	b.restart()
	want := sectors(full(1), full(2), full(3), full(104), full(5), full(106), torn(107, 7), full(8))
	if !same(b.d, api.Disk{Sectors: want, Left: -1}) {
		t.Errorf("%v", b.d.Sectors)
	}
	b.end()
}

// play performs a list of bytes on a disk and on its model.
func play(t *testing.T, script []byte) {
	next := func() int {
		if len(script) == 0 {
			return 0
		}
		b := script[0]
		script = script[1:]
		return int(b)
	}
	b := newBench(t, 1+next()%4)
	for len(script) > 0 {
		switch next() % 10 {
		default:
			b.write(next()%(b.m.sectors+2)-1, bytes.Repeat([]byte{byte(next())}, next()%131))
		case 0, 1:
			b.sync()
		case 2:
			b.stop(next()%8 - 1)
		case 3:
			b.restart()
		}
	}
	b.end()
}

// P4.1 to P4.4: disks behave as their models, whatever is done with them.
func TestPlay(t *testing.T) {
	r := rand.New(rand.NewSource(4))
	for range 1500 {
		script := make([]byte, r.Intn(120))
		r.Read(script)
		play(t, script)
	}
}

func FuzzPlay(f *testing.F) {
	f.Add([]byte{2, 2, 3, 4, 1, 7, 64, 0})
	f.Fuzz(play)
}

// P4.4: a disk of the greatest size, with 4096 writes pending, one of them torn.
func TestGreatest(t *testing.T) {
	d, _ := disk.New(4096)
	d, e := disk.Stop(d, 4095)
	for i := range 4096 {
		if e == api.OK {
			d, e = disk.Write(d, 4095-i, full(byte(i%255+1)))
		}
	}
	if e != api.OK {
		t.Fatal(e)
	}
	x, e := disk.Sync(d)
	want := api.Disk{Sectors: sectors(torn(4095%255+1, 0)), Stopped: true}
	for at := 1; at < 4096; at++ {
		want.Sectors = append(want.Sectors, full(byte((4095-at)%255+1)))
	}
	if e != api.ErrDisk || !same(x, want) {
		t.Errorf("Sync: %d", e)
	}
}

// R2: results that were returned stay as they are, even if their lists have room for more.
func TestPurity(t *testing.T) {
	d := api.Disk{Sectors: sectors(full(1), full(2)), Pending: make([]api.Write, 0, 8), Left: -1}
	data := []byte{3}
	a, _ := disk.Write(d, 0, data)
	b, _ := disk.Write(d, 1, []byte{4})
	a1, _ := disk.Write(a, 1, []byte{5})
	a2, _ := disk.Write(a, 1, []byte{6})
	s1, _ := disk.Sync(a1)
	s2, _ := disk.Sync(a2)
	data[0] = 9
	checkRead(t, a, 0, sector(3), api.OK)
	checkRead(t, a, 1, full(2), api.OK)
	checkRead(t, b, 0, full(1), api.OK)
	checkRead(t, b, 1, sector(4), api.OK)
	checkRead(t, a1, 1, sector(5), api.OK)
	checkRead(t, a2, 1, sector(6), api.OK)
	checkRead(t, s1, 1, sector(5), api.OK)
	checkRead(t, s2, 1, sector(6), api.OK)
	checkRead(t, d, 0, full(1), api.OK)
	checkRead(t, d, 1, full(2), api.OK)
}

// P4.2 and P4.3: the examples of the chapter.
func TestExamples(t *testing.T) {
	if e := disk.Check(api.Disk{}); e != api.ErrDisk {
		t.Errorf("Check(the zero disk): %d", e)
	}
	d, _ := disk.New(2)
	d, _ = disk.Stop(d, 1)
	d, _ = disk.Write(d, 0, full(1))
	checkRead(t, d, 0, full(1), api.OK)
	d, _ = disk.Write(d, 1, full(2))
	x, e := disk.Sync(d)
	if e != api.ErrDisk || !same(x, api.Disk{Sectors: sectors(full(1), torn(2, 0)), Stopped: true}) {
		t.Errorf("Sync: %v %d", x, e)
	}
}
