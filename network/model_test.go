package network_test

import (
	"bytes"
	"slices"
	"testing"

	"podium/api"
	"podium/network"
)

const parties = 24

// model is links as a list of all packets that were ever sent, of which some are on their way, and a table of cuts.
type model struct {
	sent  []api.Packet
	queue []int // what is on its way: indices of sent
	apart [parties][parties]bool
}

func party(a int) bool { return a >= 0 && a <= 23 }

func (m *model) send(p api.Packet) api.Errno {
	switch {
	case !party(p.From), !party(p.To), p.From == p.To, len(p.Data) > 1048576:
		return api.ErrNet
	case len(m.queue) >= 4096:
		return api.ErrLimit
	}
	m.sent = append(slices.Clone(m.sent), p)
	m.queue = append(slices.Clone(m.queue), len(m.sent)-1)
	return api.OK
}

// take removes a packet that is on its way.
func (m *model) take(at int) (p api.Packet, e api.Errno) {
	if at < 0 || at >= len(m.queue) {
		return p, api.ErrArg
	}
	var left []int
	for i, k := range m.queue {
		if i == at {
			p = m.sent[k]
		} else {
			left = append(left, k)
		}
	}
	m.queue = left
	return p, api.OK
}

func (m *model) deliver(at int) (p api.Packet, e api.Errno) {
	p, e = m.take(at)
	if m.apart[p.From][p.To] {
		p = api.Packet{}
	}
	return p, e
}

func (m *model) lose(at int) api.Errno {
	_, e := m.take(at)
	return e
}

func (m *model) repeat(at int) api.Errno {
	switch {
	case at < 0 || at >= len(m.queue):
		return api.ErrArg
	case len(m.queue) >= 4096:
		return api.ErrLimit
	}
	m.queue = append(slices.Clone(m.queue), m.queue[at])
	return api.OK
}

func (m *model) cut(a, b int, on bool) api.Errno {
	if !party(a) || !party(b) || a == b {
		return api.ErrArg
	}
	m.apart[a][b], m.apart[b][a] = on, on
	return api.OK
}

// net returns the links that the model describes.
func (m model) net() (n api.Net) {
	for _, k := range m.queue {
		n.Queue = append(n.Queue, m.sent[k])
	}
	for a := range parties {
		for b := a + 1; b < parties; b++ {
			if m.apart[a][b] {
				n.Apart = append(n.Apart, [2]int{a, b})
			}
		}
	}
	return n
}

func samePacket(a, b api.Packet) bool {
	return a.From == b.From && a.To == b.To && bytes.Equal(a.Data, b.Data)
}

func same(a, b api.Net) bool {
	return slices.EqualFunc(a.Queue, b.Queue, samePacket) && slices.Equal(a.Apart, b.Apart)
}

// none reports whether links are the zero value, that is, New().
func none(n api.Net) bool { return same(n, api.Net{}) }

// copied returns links that share no memory with n.
func copied(n api.Net) api.Net {
	n.Queue, n.Apart = slices.Clone(n.Queue), slices.Clone(n.Apart)
	for i := range n.Queue {
		n.Queue[i].Data = bytes.Clone(n.Queue[i].Data)
	}
	return n
}

// bench is links beside their model.
type bench struct {
	t *testing.T
	n api.Net
	m model
}

// took compares the result of a function with the model, and takes it over unless the function has refused.
func (b *bench) took(what string, x api.Net, e, want api.Errno) {
	b.t.Helper()
	if e != want {
		b.t.Fatalf("%s: %d, not %d", what, e, want)
	}
	if e == api.OK {
		b.n = x
	} else if !none(x) {
		b.t.Fatalf("%s: links with an error", what)
	}
	if !same(b.n, b.m.net()) {
		b.t.Fatalf("%s: %v, not %v", what, b.n, b.m.net())
	}
	if e := network.Check(b.n); e != api.OK {
		b.t.Fatalf("%s: Check: %d", what, e)
	}
}

func (b *bench) send(p api.Packet) {
	b.t.Helper()
	x, e := network.Send(b.n, p)
	b.took("Send", x, e, b.m.send(p))
}

func (b *bench) deliver(at int) {
	b.t.Helper()
	p, x, e := network.Deliver(b.n, at)
	want, wantE := b.m.deliver(at)
	if !samePacket(p, want) {
		b.t.Fatalf("Deliver(%d): %v, not %v", at, p, want)
	}
	b.took("Deliver", x, e, wantE)
}

func (b *bench) lose(at int) {
	b.t.Helper()
	x, e := network.Lose(b.n, at)
	b.took("Lose", x, e, b.m.lose(at))
}

func (b *bench) repeat(at int) {
	b.t.Helper()
	x, e := network.Repeat(b.n, at)
	b.took("Repeat", x, e, b.m.repeat(at))
}

func (b *bench) cut(p, q int, on bool) {
	b.t.Helper()
	x, e := network.Cut(b.n, p, q, on)
	b.took("Cut", x, e, b.m.cut(p, q, on))
}
