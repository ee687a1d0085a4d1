package disk_test

import (
	"bytes"
	"slices"
	"testing"

	"podium/api"
	"podium/disk"
)

// entry is a write of which many bytes reach the disk.
type entry struct {
	at   int
	data []byte
	many int
}

// model is a disk as the log of what was written to it.
type model struct {
	sectors int
	synced  []entry
	pending []entry
	left    int
	stopped bool
}

func newModel(sectors int) model { return model{sectors: sectors, left: -1} }

// of returns what the entries leave of zero bytes in a sector, byte by byte.
func of(l []entry, at int) []byte {
	b := make([]byte, 128)
	for i := range b {
		for _, w := range l {
			if w.at != at || i >= w.many {
				continue
			}
			b[i] = 0
			if i < len(w.data) {
				b[i] = w.data[i]
			}
		}
	}
	return b
}

func (m model) read(at int) ([]byte, api.Errno) {
	if m.stopped || at < 0 || at >= m.sectors {
		return nil, api.ErrDisk
	}
	return of(slices.Concat(m.synced, m.pending), at), api.OK
}

func (m *model) write(at int, b []byte) api.Errno {
	switch {
	case m.stopped || at < 0 || at >= m.sectors:
		return api.ErrDisk
	case len(b) > 128:
		return api.ErrArg
	case len(m.pending) == 4096:
		return api.ErrLimit
	}
	m.pending = append(slices.Clone(m.pending), entry{at, bytes.Clone(b), 128})
	return api.OK
}

func (m *model) sync() api.Errno {
	if m.stopped {
		return api.ErrDisk
	}
	m.synced = slices.Clone(m.synced)
	for _, w := range m.pending {
		if m.left == 0 {
			w.many = 64
			m.stopped = true
		}
		m.synced = append(m.synced, w)
		if m.stopped {
			break
		}
		if m.left > 0 {
			m.left--
		}
	}
	m.pending = nil
	if m.stopped {
		return api.ErrDisk
	}
	return api.OK
}

func (m *model) stop(left int) api.Errno {
	switch {
	case m.stopped:
		return api.ErrDisk
	case left < 0 || left > 65536:
		return api.ErrArg
	}
	m.left = left
	return api.OK
}

func (m *model) restart() { m.pending, m.left, m.stopped = nil, -1, false }

// disk returns the disk that the model describes.
func (m model) disk() api.Disk {
	d := api.Disk{Left: m.left, Stopped: m.stopped}
	for at := range m.sectors {
		d.Sectors = append(d.Sectors, of(m.synced, at))
	}
	for _, w := range m.pending {
		d.Pending = append(d.Pending, api.Write{At: w.at, Data: of([]entry{w}, w.at)})
	}
	return d
}

func sameWrite(a, b api.Write) bool { return a.At == b.At && bytes.Equal(a.Data, b.Data) }

func same(a, b api.Disk) bool {
	return slices.EqualFunc(a.Sectors, b.Sectors, bytes.Equal) && slices.EqualFunc(a.Pending, b.Pending, sameWrite) &&
		a.Left == b.Left && a.Stopped == b.Stopped
}

// zero reports whether a disk is the zero disk.
func zero(d api.Disk) bool { return same(d, api.Disk{}) }

// copied returns a disk that shares no memory with d.
func copied(d api.Disk) api.Disk {
	d.Sectors, d.Pending = slices.Clone(d.Sectors), slices.Clone(d.Pending)
	for i := range d.Sectors {
		d.Sectors[i] = bytes.Clone(d.Sectors[i])
	}
	for i := range d.Pending {
		d.Pending[i].Data = bytes.Clone(d.Pending[i].Data)
	}
	return d
}

// bench is a disk beside its model, with copies of all disks that it was, which must not change.
type bench struct {
	t    *testing.T
	d    api.Disk
	m    model
	was  []api.Disk
	kept []api.Disk
}

func newBench(t *testing.T, sectors int) *bench {
	t.Helper()
	d, e := disk.New(sectors)
	if e != api.OK {
		t.Fatalf("New(%d): %d", sectors, e)
	}
	b := &bench{t: t, d: d, m: newModel(sectors)}
	b.look("New")
	return b
}

// look compares the disk with its model.
func (b *bench) look(what string) {
	b.t.Helper()
	if !same(b.d, b.m.disk()) {
		b.t.Fatalf("%s: the disk is not as its model", what)
	}
	if e := disk.Check(b.d); e != api.OK {
		b.t.Fatalf("%s: Check: %d", what, e)
	}
	for at := -1; at <= b.m.sectors; at++ {
		s, e := disk.Read(b.d, at)
		want, wantE := b.m.read(at)
		if e != wantE || !bytes.Equal(s, want) {
			b.t.Fatalf("%s: Read(%d): %v %d, not %v %d", what, at, s, e, want, wantE)
		}
	}
	b.was, b.kept = append(b.was, b.d), append(b.kept, copied(b.d))
}

// step takes over what a function has returned. With an error, only a sync that the disk stops in returns a disk.
func (b *bench) step(what string, x api.Disk, e, want api.Errno, stops bool) {
	b.t.Helper()
	if e != want {
		b.t.Fatalf("%s: %d, not %d", what, e, want)
	}
	if e == api.OK || stops {
		b.d = x
	} else if !zero(x) {
		b.t.Fatalf("%s: a disk with an error", what)
	}
	b.look(what)
}

func (b *bench) write(at int, data []byte) {
	b.t.Helper()
	x, e := disk.Write(b.d, at, data)
	b.step("Write", x, e, b.m.write(at, data), false)
}

func (b *bench) sync() {
	b.t.Helper()
	x, e := disk.Sync(b.d)
	ran := !b.m.stopped
	want := b.m.sync()
	b.step("Sync", x, e, want, ran && b.m.stopped)
}

func (b *bench) stop(left int) {
	b.t.Helper()
	x, e := disk.Stop(b.d, left)
	b.step("Stop", x, e, b.m.stop(left), false)
}

func (b *bench) restart() {
	b.t.Helper()
	x := disk.Restart(b.d)
	b.m.restart()
	b.step("Restart", x, api.OK, api.OK, false)
}

// end checks that no disk has changed since it was returned.
func (b *bench) end() {
	b.t.Helper()
	for i := range b.was {
		if !same(b.was[i], b.kept[i]) {
			b.t.Fatalf("disk %d has changed", i)
		}
	}
}
