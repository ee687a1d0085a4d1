package network_test

import (
	"fmt"
	"math"
	"math/rand"
	"slices"
	"strings"
	"testing"

	"podium/api"
	"podium/network"
)

func packet(from, to int, data string) api.Packet {
	return api.Packet{From: from, To: to, Data: []byte(data)}
}

func pair(a, b int) [2]int { return [2]int{a, b} }

func apart(l ...[2]int) [][2]int { return l }

// queued returns links with these packets.
func queued(l ...api.Packet) api.Net { return api.Net{Queue: l} }

// many returns links with n packets, which say where they stand.
func many(n int) (x api.Net) {
	for i := range n {
		x.Queue = append(x.Queue, packet(i%parties, (i+1)%parties, fmt.Sprint(i)))
	}
	return x
}

// allPairs returns all pairs of parties, the lesser one first, in increasing order.
func allPairs() (l [][2]int) {
	for a := range parties {
		for b := a + 1; b < parties; b++ {
			l = append(l, pair(a, b))
		}
	}
	return l
}

func validPackets() []api.Packet {
	return []api.Packet{
		packet(0, 1, ""),
		packet(1, 0, "x"),
		packet(0, 23, "xy"),
		packet(23, 0, "\x00\xff"),
		packet(22, 23, ""),
		{From: 3, To: 4, Data: make([]byte, 1<<20-1)},
		{From: 4, To: 3, Data: make([]byte, 1<<20)},
	}
}

func invalidPackets() []api.Packet {
	return []api.Packet{
		{},
		packet(0, 0, "x"),
		packet(3, 3, ""),
		packet(23, 23, "x"),
		packet(24, 24, ""),
		packet(-1, 0, ""),
		packet(0, -1, ""),
		packet(24, 0, ""),
		packet(0, 24, ""),
		packet(-1, 24, ""),
		packet(1, 25, ""),
		packet(math.MinInt, 0, ""),
		packet(0, math.MinInt, ""),
		packet(math.MaxInt, 0, ""),
		packet(0, math.MaxInt, ""),
		packet(1<<32, 1, ""),
		packet(1, 1<<32+2, ""),
		{From: 0, To: 1, Data: make([]byte, 1<<20+1)},
		{From: 23, To: 22, Data: make([]byte, 1<<21)},
	}
}

func validNets() []api.Net {
	l := []api.Net{
		{},
		{Queue: []api.Packet{}, Apart: [][2]int{}},
		many(1),
		many(25),
		many(4095),
		many(4096),
		{Apart: apart(pair(0, 1))},
		{Apart: apart(pair(0, 23))},
		{Apart: apart(pair(22, 23))},
		{Apart: apart(pair(0, 1), pair(0, 2), pair(1, 2), pair(22, 23))},
		{Apart: apart(pair(0, 23), pair(1, 2))},
		{Apart: apart(pair(0, 9), pair(0, 10), pair(1, 9), pair(2, 3))},
		{Apart: allPairs()},
		{Queue: many(4096).Queue, Apart: allPairs()},
		queued(packet(0, 1, "a"), packet(0, 1, "a")),
	}
	for _, p := range validPackets() {
		l = append(l, queued(p), queued(packet(5, 6, ""), p, packet(7, 8, "")))
	}
	return l
}

func invalidNets() []api.Net {
	l := []api.Net{many(4097), many(5000)}
	for _, p := range invalidPackets() {
		l = append(l, queued(p), queued(p, packet(0, 1, "")), queued(packet(0, 1, ""), p))
		full := many(4096)
		full.Queue[4095] = p
		l = append(l, full)
	}
	for _, x := range [][][2]int{
		apart(pair(0, 0)),
		apart(pair(1, 0)),
		apart(pair(1, 1)),
		apart(pair(23, 23)),
		apart(pair(23, 22)),
		apart(pair(-1, 0)),
		apart(pair(0, -1)),
		apart(pair(-2, -1)),
		apart(pair(0, 24)),
		apart(pair(23, 24)),
		apart(pair(24, 25)),
		apart(pair(24, 0)),
		apart(pair(math.MinInt, 0)),
		apart(pair(0, math.MaxInt)),
		apart(pair(0, 1), pair(0, 1)),
		apart(pair(0, 2), pair(0, 1)),
		apart(pair(1, 2), pair(0, 3)),
		apart(pair(1, 3), pair(0, 3)),
		apart(pair(2, 3), pair(1, 22)),
		apart(pair(0, 1), pair(2, 1)),
		apart(pair(0, 1), pair(0, 24)),
		apart(pair(-1, 1), pair(0, 1)),
		apart(pair(0, 1), pair(0, 3), pair(0, 2)),
		apart(pair(0, 2), pair(0, 3), pair(0, 2)),
		apart(pair(0, 1), pair(1, 2), pair(1, 2)),
		append(allPairs(), pair(22, 23)),
		append(allPairs(), pair(23, 24)),
		append(apart(pair(0, 0)), allPairs()...),
	} {
		l = append(l, api.Net{Apart: x}, api.Net{Queue: many(2).Queue, Apart: x})
	}
	return l
}

// P6.1: New returns valid links without packets and cuts.
func TestNew(t *testing.T) {
	n := network.New()
	if e := network.Check(n); e != api.OK || len(n.Queue) != 0 || len(n.Apart) != 0 {
		t.Errorf("%v, Check: %d", n, e)
	}
}

// P6.1: which links are valid.
func TestCheck(t *testing.T) {
	for i, n := range validNets() {
		if e := network.Check(n); e != api.OK {
			t.Errorf("valid links %d: %d", i, e)
		}
	}
	for i, n := range invalidNets() {
		if e := network.Check(n); e != api.ErrNet {
			t.Errorf("invalid links %d: %d", i, e)
		}
	}
}

// P6.1: packets between all pairs of numbers around those of the parties.
func TestCheckPairs(t *testing.T) {
	for a := -2; a <= 25; a++ {
		for b := -2; b <= 25; b++ {
			within := a >= 0 && a < 24 && b >= 0 && b < 24
			if e := network.Check(queued(packet(a, b, "x"))); (e == api.OK) != (within && a != b) {
				t.Errorf("a packet from %d to %d: %d", a, b, e)
			}
			if e := network.Check(api.Net{Apart: apart(pair(a, b))}); (e == api.OK) != (within && a < b) {
				t.Errorf("%d and %d apart: %d", a, b, e)
			}
		}
	}
}

// P6.1 to P6.3: links that are not valid are refused before anything else is.
func TestRefuse(t *testing.T) {
	for i, n := range invalidNets() {
		for _, p := range []api.Packet{{}, packet(0, 1, "x"), packet(24, 1, "x")} {
			if x, e := network.Send(n, p); e != api.ErrNet || !none(x) {
				t.Errorf("%d: Send(%v): %d", i, p, e)
			}
		}
		for _, at := range []int{-1, 0, 1, 4096, 5000} {
			p, x, e := network.Deliver(n, at)
			if e != api.ErrNet || !none(x) || !samePacket(p, api.Packet{}) {
				t.Errorf("%d: Deliver(%d): %d", i, at, e)
			}
			if x, e := network.Lose(n, at); e != api.ErrNet || !none(x) {
				t.Errorf("%d: Lose(%d): %d", i, at, e)
			}
			if x, e := network.Repeat(n, at); e != api.ErrNet || !none(x) {
				t.Errorf("%d: Repeat(%d): %d", i, at, e)
			}
		}
		for _, p := range apart(pair(0, 1), pair(1, 0), pair(2, 2), pair(-1, 24)) {
			for _, on := range []bool{true, false} {
				if x, e := network.Cut(n, p[0], p[1], on); e != api.ErrNet || !none(x) {
					t.Errorf("%d: Cut(%v, %v): %d", i, p, on, e)
				}
			}
		}
	}
}

// P6.1: Send puts a packet at the end, also if its link is cut.
func TestSend(t *testing.T) {
	for i, n := range validNets() {
		if len(n.Queue) == 4096 {
			continue
		}
		for _, p := range validPackets() {
			want := api.Net{Queue: append(slices.Clone(n.Queue), p), Apart: n.Apart}
			if x, e := network.Send(n, p); e != api.OK || !same(x, want) {
				t.Errorf("links %d, from %d to %d: %d", i, p.From, p.To, e)
			}
		}
	}
}

// P6.1: Send refuses packets that are not valid, before it looks at the limit.
func TestSendWrong(t *testing.T) {
	for i, n := range validNets() {
		for _, p := range invalidPackets() {
			if x, e := network.Send(n, p); e != api.ErrNet || !none(x) {
				t.Errorf("links %d, from %d to %d: %d", i, p.From, p.To, e)
			}
		}
	}
}

// P6.1: 4096 packets can be on their way.
func TestSendLimit(t *testing.T) {
	var n api.Net
	want := many(4096)
	for i, p := range want.Queue {
		x, e := network.Send(n, p)
		if e != api.OK || len(x.Queue) != i+1 {
			t.Fatalf("packet %d: %d", i, e)
		}
		n = x
	}
	if !same(n, want) || network.Check(n) != api.OK {
		t.Error("the packets are not those that were sent")
	}
	for _, p := range validPackets() {
		if x, e := network.Send(n, p); e != api.ErrLimit || !none(x) {
			t.Errorf("packet 4096: %d", e)
		}
	}
	if _, n, e := network.Deliver(n, 17); e != api.OK || len(n.Queue) != 4095 {
		t.Errorf("Deliver: %d", e)
	} else if _, e := network.Send(n, packet(0, 1, "")); e != api.OK {
		t.Errorf("Send after Deliver: %d", e)
	}
}

// P6.2: Deliver, Lose and Repeat concern the packet with the index; the others keep their order.
func TestMoves(t *testing.T) {
	for size := range 7 {
		n := api.Net{Queue: many(size).Queue, Apart: apart(pair(1, 5), pair(2, 9))}
		for at := range size {
			b := bench{t: t, n: n, m: modelOf(n)}
			b.deliver(at)
			b = bench{t: t, n: n, m: modelOf(n)}
			b.lose(at)
			b = bench{t: t, n: n, m: modelOf(n)}
			b.repeat(at)
		}
	}
	n := queued(packet(0, 1, "a"), packet(1, 2, "b"), packet(2, 0, "c"))
	p, x, e := network.Deliver(n, 1)
	if e != api.OK || !samePacket(p, packet(1, 2, "b")) || !same(x, queued(packet(0, 1, "a"), packet(2, 0, "c"))) {
		t.Errorf("Deliver: %v %v %d", p, x, e)
	}
	x, e = network.Lose(n, 0)
	if e != api.OK || !same(x, queued(packet(1, 2, "b"), packet(2, 0, "c"))) {
		t.Errorf("Lose: %v %d", x, e)
	}
	x, e = network.Repeat(n, 0)
	if e != api.OK || !same(x, queued(packet(0, 1, "a"), packet(1, 2, "b"), packet(2, 0, "c"), packet(0, 1, "a"))) {
		t.Errorf("Repeat: %v %d", x, e)
	}
}

// modelOf returns the model of links.
func modelOf(n api.Net) (m model) {
	for i, p := range n.Queue {
		m.sent, m.queue = append(m.sent, p), append(m.queue, i)
	}
	for _, p := range n.Apart {
		m.apart[p[0]][p[1]], m.apart[p[1]][p[0]] = true, true
	}
	return m
}

// P6.2: indices of no packet are refused.
func TestMovesWrong(t *testing.T) {
	for i, n := range validNets() {
		size := len(n.Queue)
		for _, at := range []int{-1, -2, -size, -size - 1, size, size + 1, 1<<32 + size, math.MinInt, math.MaxInt} {
			if at == 0 && size > 0 {
				continue
			}
			p, x, e := network.Deliver(n, at)
			if e != api.ErrArg || !none(x) || !samePacket(p, api.Packet{}) {
				t.Errorf("links %d: Deliver(%d): %d", i, at, e)
			}
			if x, e := network.Lose(n, at); e != api.ErrArg || !none(x) {
				t.Errorf("links %d: Lose(%d): %d", i, at, e)
			}
			if x, e := network.Repeat(n, at); e != api.ErrArg || !none(x) {
				t.Errorf("links %d: Repeat(%d): %d", i, at, e)
			}
		}
	}
}

// P6.2: Repeat has the limit of Send; Deliver and Lose have none.
func TestRepeatLimit(t *testing.T) {
	full := many(4096)
	full.Apart = apart(pair(0, 1))
	for _, at := range []int{0, 1, 4094, 4095} {
		if x, e := network.Repeat(full, at); e != api.ErrLimit || !none(x) {
			t.Errorf("Repeat(%d): %d", at, e)
		}
		b := bench{t: t, n: full, m: modelOf(full)}
		b.deliver(at)
		b.repeat(at / 2)
		b.repeat(at)
		b = bench{t: t, n: full, m: modelOf(full)}
		b.lose(at)
		b.repeat(4094)
		b.repeat(0)
	}
}

// P6.3: Cut and mend all links, in both directions, on links that have no cut, one, or all.
func TestCut(t *testing.T) {
	queue := many(3).Queue
	for a := -2; a <= 25; a++ {
		for c := -2; c <= 25; c++ {
			for _, n := range []api.Net{
				{Queue: queue},
				{Queue: queue, Apart: apart(pair(3, 7))},
				{Queue: queue, Apart: apart(pair(0, 23), pair(7, 8), pair(22, 23))},
				{Queue: queue, Apart: allPairs()},
			} {
				b := bench{t: t, n: n, m: modelOf(n)}
				b.cut(a, c, true)
				b.cut(a, c, true)
				b.cut(c, a, true)
				b.cut(c, a, false)
				b.cut(a, c, false)
				b.cut(a, c, true)
				b.cut(a, c, false)
			}
		}
	}
}

// P6.3: numbers that are not those of two parties are refused.
func TestCutWrong(t *testing.T) {
	for i, n := range validNets() {
		for _, p := range apart(pair(0, 0), pair(23, 23), pair(-1, 0), pair(0, -1), pair(24, 0), pair(0, 24), pair(24, 24), pair(-1, -1), pair(1<<32, 1), pair(math.MinInt, 0), pair(0, math.MaxInt)) {
			for _, on := range []bool{true, false} {
				if x, e := network.Cut(n, p[0], p[1], on); e != api.ErrArg || !none(x) {
					t.Errorf("links %d: Cut(%v, %v): %d", i, p, on, e)
				}
			}
		}
	}
}

// P6.3: all links are cut, and mended, in any order.
func TestCutAll(t *testing.T) {
	r := rand.New(rand.NewSource(6))
	b := bench{t: t}
	for _, on := range []bool{true, false} {
		for _, i := range r.Perm(276) {
			p := allPairs()[i]
			if r.Intn(2) == 0 {
				p[0], p[1] = p[1], p[0]
			}
			b.cut(p[0], p[1], on)
		}
		if on != slices.Equal(b.n.Apart, allPairs()) || on == (len(b.n.Apart) == 0) {
			t.Errorf("%v: %v", on, b.n.Apart)
		}
	}
}

// P6.2 to P6.4: a cut works in both directions, and on no other link; the zero packet is not valid.
func TestApart(t *testing.T) {
	for _, cut := range allPairs() {
		n, e := network.Cut(network.New(), cut[0], cut[1], true)
		if e != api.OK {
			t.Fatal(e)
		}
		for from := range parties {
			for to := range parties {
				if from == to {
					continue
				}
				sent := packet(from, to, "x")
				n.Queue = []api.Packet{sent, packet(2, 1, "y")}
				p, x, e := network.Deliver(n, 0)
				if from == cut[0] && to == cut[1] || from == cut[1] && to == cut[0] {
					sent = api.Packet{}
				}
				if e != api.OK || !samePacket(p, sent) || !same(x, api.Net{Queue: n.Queue[1:], Apart: n.Apart}) {
					t.Fatalf("%v apart, from %d to %d: %v %v %d", cut, from, to, p, x, e)
				}
			}
		}
	}
	if e := network.Check(queued(api.Packet{})); e != api.ErrNet {
		t.Errorf("the zero packet: %d", e)
	}
}

// P6.2 and P6.3: a packet that was sent before the cut is lost by it, one that was sent over the cut link arrives if the link is mended.
func TestMended(t *testing.T) {
	b := bench{t: t}
	b.send(packet(4, 2, "a"))
	b.cut(2, 4, true)
	b.send(packet(2, 4, "b"))
	b.send(packet(4, 2, "c"))
	b.deliver(0)
	b.repeat(0)
	b.cut(4, 2, false)
	b.deliver(0)
	b.deliver(0)
	if p, _, e := network.Deliver(b.n, 0); e != api.OK || !samePacket(p, packet(2, 4, "b")) {
		t.Errorf("%v %d", p, e)
	}
}

// P6.4: each packet is delivered once, in all orders of up to six packets.
func TestAnyOrder(t *testing.T) {
	var deliver func(t *testing.T, n api.Net, left []api.Packet)
	deliver = func(t *testing.T, n api.Net, left []api.Packet) {
		if len(n.Queue) != len(left) {
			t.Fatalf("%d packets, not %d", len(n.Queue), len(left))
		}
		for at := range left {
			p, x, e := network.Deliver(n, at)
			if e != api.OK || !samePacket(p, left[at]) {
				t.Fatalf("%v, not %v: %d", p, left[at], e)
			}
			deliver(t, x, slices.Delete(slices.Clone(left), at, at+1))
		}
	}
	for size := range 7 {
		n, l := network.New(), many(size).Queue
		for _, p := range l {
			n, _ = network.Send(n, p)
		}
		deliver(t, n, l)
	}
}

// P6.1 to P6.4: everything that can happen in five steps among three parties. That links are used again for each next step shows that they do not change.
func TestAll(t *testing.T) {
	steps := []func(b *bench){
		func(b *bench) { b.send(packet(0, 1, fmt.Sprint(len(b.m.sent)))) },
		func(b *bench) { b.send(packet(1, 0, fmt.Sprint(len(b.m.sent)))) },
		func(b *bench) { b.send(packet(2, 1, fmt.Sprint(len(b.m.sent)))) },
		func(b *bench) { b.deliver(0) },
		func(b *bench) { b.deliver(1) },
		func(b *bench) { b.lose(0) },
		func(b *bench) { b.lose(2) },
		func(b *bench) { b.repeat(0) },
		func(b *bench) { b.repeat(1) },
		func(b *bench) { b.cut(0, 1, true) },
		func(b *bench) { b.cut(1, 2, true) },
		func(b *bench) { b.cut(1, 0, false) },
	}
	var play func(b bench, left int)
	play = func(b bench, left int) {
		if left == 0 {
			return
		}
		kept := copied(b.n)
		for _, step := range steps {
			next := b
			step(&next)
			play(next, left-1)
		}
		if !same(b.n, kept) {
			t.Fatalf("%v has changed to %v", kept, b.n)
		}
	}
	play(bench{t: t}, 5)
}

// play performs a list of bytes on links and on their model.
func play(t *testing.T, script []byte) {
	next := func(n int) int {
		if len(script) == 0 {
			return 0
		}
		b := script[0]
		script = script[1:]
		return int(b) % n
	}
	b := bench{t: t}
	var was, kept []api.Net
	for len(script) > 0 {
		switch next(10) {
		default:
			b.send(packet(next(26)-1, next(26)-1, strings.Repeat("x", next(9))))
		case 0:
			b.send(packet(next(3), 3+next(2), fmt.Sprint(len(b.m.sent))))
		case 1, 2:
			b.deliver(next(len(b.n.Queue)+2) - 1)
		case 3:
			b.lose(next(len(b.n.Queue)+2) - 1)
		case 4:
			b.repeat(next(len(b.n.Queue)+2) - 1)
		case 5:
			b.cut(next(26)-1, next(26)-1, true)
		case 6:
			b.cut(next(3), 3+next(2), next(2) == 0)
		}
		was, kept = append(was, b.n), append(kept, copied(b.n))
	}
	for i := range was {
		if !same(was[i], kept[i]) {
			t.Fatalf("the links of step %d have changed", i)
		}
	}
}

// P6.1 to P6.4: links behave as their models, whatever is done with them.
func TestPlay(t *testing.T) {
	r := rand.New(rand.NewSource(4))
	for range 2000 {
		script := make([]byte, r.Intn(200))
		r.Read(script)
		play(t, script)
	}
}

func FuzzPlay(f *testing.F) {
	f.Add([]byte{0, 1, 1, 4, 1, 6, 1, 1, 0, 1, 1})
	f.Fuzz(play)
}

// R2: results that were returned stay as they are, even if their lists have room for more.
func TestPurity(t *testing.T) {
	n := api.Net{Queue: make([]api.Packet, 0, 8), Apart: make([][2]int, 0, 8)}
	n.Queue = append(n.Queue, packet(0, 1, "a"), packet(1, 2, "b"), packet(2, 0, "c"))
	n.Apart = append(n.Apart, pair(0, 5), pair(3, 4), pair(7, 8))
	was := []api.Net{n}
	kept := []api.Net{copied(n)}
	add := func(x api.Net, e api.Errno) {
		if e != api.OK {
			t.Fatal(e)
		}
		was, kept = append(was, x), append(kept, copied(x))
	}
	for range 2 {
		for _, n := range slices.Clone(was) {
			add(network.Send(n, packet(3, 4, "d")))
			add(network.Send(n, packet(4, 3, "e")))
			for at := range n.Queue {
				_, x, e := network.Deliver(n, at)
				add(x, e)
				add(network.Lose(n, at))
				add(network.Repeat(n, at))
			}
			for _, p := range apart(pair(0, 1), pair(4, 3), pair(0, 5), pair(8, 7), pair(9, 10)) {
				add(network.Cut(n, p[0], p[1], true))
				add(network.Cut(n, p[0], p[1], false))
			}
		}
	}
	for i := range was {
		if !same(was[i], kept[i]) {
			t.Fatalf("links %d have changed", i)
		}
	}
}

// P6.1 to P6.3: the examples of the chapter.
func TestExamples(t *testing.T) {
	if _, _, e := network.Deliver(network.New(), 0); e != api.ErrArg {
		t.Errorf("Deliver(New(), 0): %d", e)
	}
	if _, e := network.Send(network.New(), packet(3, 3, "")); e != api.ErrNet {
		t.Errorf("Send from 3 to 3: %d", e)
	}
	if _, e := network.Cut(network.New(), 2, 2, true); e != api.ErrArg {
		t.Errorf("Cut(New(), 2, 2): %d", e)
	}
	once, e := network.Cut(network.New(), 3, 1, true)
	if e != api.OK || !same(once, api.Net{Apart: apart(pair(1, 3))}) {
		t.Errorf("Cut(New(), 3, 1): %v %d", once, e)
	}
	if twice, e := network.Cut(once, 3, 1, true); e != api.OK || !same(twice, once) {
		t.Errorf("Cut twice: %v %d", twice, e)
	}
	n, _ := network.Send(network.New(), packet(1, 2, "x"))
	n, _ = network.Repeat(n, 0)
	for i := range 2 {
		p, x, e := network.Deliver(n, 0)
		if e != api.OK || !samePacket(p, packet(1, 2, "x")) || len(x.Queue) != 1-i {
			t.Errorf("delivery %d: %v %d", i, p, e)
		}
		n = x
	}
}
