package chain_test

import (
	"bytes"
	"encoding/hex"
	"fmt"
	"math"
	"math/rand"
	"slices"
	"strings"
	"testing"

	"podium/api"
	"podium/chain"
)

// linked gives links their node, their places and the heads before them, whatever their data are.
func linked(node int, data ...string) (l []api.Link) {
	for i, s := range data {
		l = append(l, api.Link{Node: node, No: i, Prev: headOf(l), Data: []byte(s)})
	}
	return l
}

// relinked returns links with the right heads before them; all else stays as it is.
func relinked(l []api.Link) []api.Link {
	l = slices.Clone(l)
	for i := range l {
		l[i].Prev = headOf(l[:i])
	}
	return l
}

// long returns a chain of n links of a node.
func long(node, n int) []api.Link {
	var data []string
	for i := range n {
		data = append(data, strings.Repeat(fmt.Sprint(i), i%4))
	}
	return linked(node, data...)
}

// changed returns a list with one link changed.
func changed(l []api.Link, at int, change func(x *api.Link)) []api.Link {
	l = slices.Clone(l)
	change(&l[at])
	return l
}

// wrongNodes are numbers that no node has.
func wrongNodes() []int {
	return []int{-1, 24, 25, 256, 1 << 32, -1 << 32, math.MinInt, math.MaxInt}
}

func deepClone(l []api.Link) []api.Link {
	l = slices.Clone(l)
	for i := range l {
		l[i].Data = bytes.Clone(l[i].Data)
	}
	return l
}

// P8.1: heads of texts that are written out.
func TestHeadByHand(t *testing.T) {
	none := tagged("none", nil)
	if chain.Head(nil) != none || chain.Head([]api.Link{}) != none {
		t.Error("no links")
	}
	if got := hex.EncodeToString(none[:4]); got != "fc0dc92a" {
		t.Error("the digest of none", got)
	}
	prev := api.Digest(bytes.Repeat([]byte{200}, 32))
	for i, x := range []struct {
		l    api.Link
		want string
	}{
		{api.Link{}, "\x03\x04\x01\x00\x01\x00\x02\x20" + strings.Repeat("\x00", 32) + "\x02\x00"},
		{api.Link{Node: 15, Prev: prev, Data: []byte("ab")}, "\x03\x04\x01\x1e\x01\x00\x02\x20" + string(prev[:]) + "\x02\x02ab"},
		{api.Link{Node: 23, No: 1023, Prev: prev}, "\x03\x04\x01\x2e\x01\xfe\x0f\x02\x20" + string(prev[:]) + "\x02\x00"},
		{api.Link{Node: -1, No: -2, Data: []byte{0, 255}}, "\x03\x04\x01\x01\x01\x03\x02\x20" + strings.Repeat("\x00", 32) + "\x02\x02\x00\xff"},
	} {
		if chain.Head([]api.Link{x.l}) != tagged("link", []byte(x.want)) {
			t.Error(i)
		}
	}
}

// P8.1: the head follows from all fields of the last link, whatever they are, and from nothing else.
func TestHead(t *testing.T) {
	prev := tagged("x", nil)
	for _, n := range []int{0, 1, 2, 23, 24, 63, 64, 100, 1023, 1024, 8191, 8192, 1 << 32, math.MaxInt, -1, -64, -65, -1 << 32, math.MinInt} {
		for _, x := range []api.Link{{Node: n}, {No: n}, {Node: n, No: -n, Prev: prev}, {Node: 3, No: n, Prev: prev, Data: []byte("x")}} {
			if l := []api.Link{x}; chain.Head(l) != headOf(l) {
				t.Error(n, x)
			}
		}
	}
	for _, n := range []int{0, 1, 2, 127, 128, 129, 16383, 16384, 65535, 65536, 65537, 1<<20 - 1, 1 << 20} {
		data := bytes.Repeat([]byte{byte(n), 0, 255}, n/3+1)[:n]
		if l := []api.Link{{Node: 1, No: 2, Prev: prev, Data: data}}; chain.Head(l) != headOf(l) {
			t.Error("data", n)
		}
	}
	l := long(5, 1300)
	for n := range l {
		if chain.Head(l[:n]) != headOf(l[:n]) || n > 0 && chain.Head(l[:n]) != chain.Head(l[n-1:n]) {
			t.Error("beginning", n)
		}
	}
}

// P8.1: nil data and empty data are the same.
func TestEmptyData(t *testing.T) {
	a, b := []api.Link{{Prev: headOf(nil)}}, []api.Link{{Prev: headOf(nil), Data: []byte{}}}
	if chain.Head(a) != chain.Head(b) || chain.Check(a) != api.OK || chain.Check(b) != api.OK {
		t.Error("one link")
	}
	a, b = append(a, api.Link{No: 1, Prev: headOf(b)}), append(b, api.Link{No: 1, Prev: headOf(a), Data: []byte{}})
	if chain.Check(a) != api.OK || chain.Check(b) != api.OK {
		t.Error("two links")
	}
	if i, ok, e := chain.Part(a, b); i != 0 || ok || e != api.OK {
		t.Error("Part", i, ok, e)
	}
}

// P8.1: each field of the last link, and the limits between its data and the others, count.
func TestHeadDistinguishes(t *testing.T) {
	all := map[api.Digest]int{headOf(nil): -1}
	x := api.Link{Node: 1, No: 2, Prev: tagged("x", nil), Data: []byte{1, 2, 2, 0}}
	lists := [][]api.Link{{x}, {{}}, {{Data: []byte("none")}}, {{Data: textOf(x)}}}
	change := func(f func(x *api.Link)) { lists = append(lists, changed([]api.Link{x}, 0, f)) }
	for i := range 32 {
		change(func(x *api.Link) { x.Prev[i] ^= 1 })
		change(func(x *api.Link) { x.Prev[i] ^= 128 })
	}
	change(func(x *api.Link) { x.Node = -1 })
	change(func(x *api.Link) { x.Node, x.No = 2, 1 })
	change(func(x *api.Link) { x.Node = 0 })
	change(func(x *api.Link) { x.No = -2 })
	change(func(x *api.Link) { x.No += 256 })
	change(func(x *api.Link) { x.Node += 1 << 32 })
	change(func(x *api.Link) { x.Data = nil })
	for i := range x.Data {
		change(func(x *api.Link) { x.Data = x.Data[:i] })
		change(func(x *api.Link) { x.Data = slices.Concat(x.Data[:i], []byte{9}, x.Data[i+1:]) })
		change(func(x *api.Link) { x.Data = slices.Concat(x.Data[:i+1], []byte{0}, x.Data[i+1:]) })
	}
	for i, l := range lists {
		d := chain.Head(l)
		if other, ok := all[d]; ok && !(other >= 0 && sameLinks(lists[other], l)) {
			t.Error(i, other)
		}
		all[d] = i
	}
}

// P8.1: chains of all lengths and nodes.
func TestCheck(t *testing.T) {
	if chain.Check(nil) != api.OK || chain.Check([]api.Link{}) != api.OK {
		t.Error("no links")
	}
	for node := range 24 {
		for n := range 12 {
			if e := chain.Check(long(node, n)); e != api.OK {
				t.Error(node, n, e)
			}
		}
	}
	l := long(23, 1024)
	for _, n := range []int{100, 127, 128, 129, 512, 1000, 1023, 1024} {
		if e := chain.Check(l[:n]); e != api.OK {
			t.Error(n, e)
		}
	}
}

// P8.1: more than 1024 links are too many, be they a chain or not.
func TestCheckLimit(t *testing.T) {
	for _, n := range []int{1025, 1026, 2048, 5000} {
		l := long(3, n)
		for i, l := range [][]api.Link{l, make([]api.Link, n), changed(l, 0, func(x *api.Link) { x.Node = 24 }), changed(l, 1, func(x *api.Link) { x.No = 0 })} {
			if e := chain.Check(l); e != api.ErrLimit {
				t.Error(n, i, e)
			}
		}
	}
	if e := chain.Check(make([]api.Link, 1024)); e != api.ErrChain {
		t.Error("1024 links that are no chain", e)
	}
	if e := chain.Check(changed(long(3, 1024), 1023, func(x *api.Link) { x.No = 0 })); e != api.ErrChain {
		t.Error("the last one of 1024", e)
	}
}

// P8.1: a wrong number, at any place.
func TestCheckNo(t *testing.T) {
	l := long(7, 6)
	for i := range l {
		for _, no := range []int{-1, 0, 1, 2, 3, 4, 5, 6, i - 1, i + 1, -i, ^i, i + 1<<32, i - 1<<32, math.MinInt, math.MaxInt} {
			want := api.ErrChain
			if no == i {
				want = api.OK
			}
			m := changed(l, i, func(x *api.Link) { x.No = no })
			if chain.Check(m) != want || chain.Check(relinked(m)) != want {
				t.Error(i, no)
			}
		}
	}
}

// P8.1: a wrong node, at any place or at all of them.
func TestCheckNode(t *testing.T) {
	l := long(7, 4)
	for i := range l {
		for _, node := range append(wrongNodes(), 0, 6, 8, 23, 7+1<<32) {
			m := changed(l, i, func(x *api.Link) { x.Node = node })
			if chain.Check(m) != api.ErrChain || chain.Check(relinked(m)) != api.ErrChain {
				t.Error(i, node)
			}
			// From one link on there is another node.
			for k := range m[i:] {
				m[i+k].Node = node
			}
			if i > 0 && chain.Check(relinked(m)) != api.ErrChain {
				t.Error("from", i, node)
			}
		}
	}
	for _, node := range wrongNodes() {
		for n := 1; n < 4; n++ {
			if e := chain.Check(long(node, n)); e != api.ErrChain {
				t.Error(node, n, e)
			}
		}
	}
}

// P8.1: a wrong head before a link, at any place and in any bit.
func TestCheckPrev(t *testing.T) {
	l := long(7, 5)
	for i := range l {
		for bit := range 256 {
			m := changed(l, i, func(x *api.Link) { x.Prev[bit/8] ^= 1 << (bit % 8) })
			if chain.Check(m) != api.ErrChain {
				t.Error(i, bit)
			}
		}
		for k := range 6 {
			m := changed(l, i, func(x *api.Link) { x.Prev = headOf(l[:k]) })
			if (chain.Check(m) == api.OK) != (i == k) {
				t.Error("the head of another beginning", i, k)
			}
		}
		if chain.Check(changed(l, i, func(x *api.Link) { x.Prev = api.Digest{} })) != api.ErrChain {
			t.Error("no head", i)
		}
	}
}

// P8.1: the length of the data, at any place.
func TestCheckData(t *testing.T) {
	for n := 1; n <= 3; n++ {
		for i := range n {
			for size, want := range map[int]api.Errno{65535: api.OK, 65536: api.OK, 65537: api.ErrChain, 1 << 20: api.ErrChain} {
				m := relinked(changed(long(7, n), i, func(x *api.Link) { x.Data = make([]byte, size) }))
				if e := chain.Check(m); e != want {
					t.Error(n, i, size, e)
				}
			}
		}
	}
}

// P8.1: links that are missing, exchanged or repeated.
func TestCheckOrder(t *testing.T) {
	l := long(7, 6)
	for i := range l {
		if e := chain.Check(slices.Delete(slices.Clone(l), i, i+1)); (e == api.OK) != (i == len(l)-1) {
			t.Error("missing", i, e)
		}
		if e := chain.Check(slices.Insert(slices.Clone(l), i, l[i])); e != api.ErrChain {
			t.Error("repeated", i, e)
		}
		if e := chain.Check(l[i:]); (e == api.OK) != (i == 0) {
			t.Error("end", i, e)
		}
		for k := range i {
			m := slices.Clone(l)
			m[i], m[k] = l[k], l[i]
			if e := chain.Check(m); e != api.ErrChain {
				t.Error("exchanged", i, k, e)
			}
		}
	}
}

// P8.2: what Add returns, one link after the other.
func TestAdd(t *testing.T) {
	for _, node := range []int{0, 1, 7, 22, 23} {
		var l []api.Link
		for i, s := range []string{"one", "", "three", "\x00\xff", strings.Repeat("x", 65536), ""} {
			x, e := chain.Add(l, node, []byte(s))
			if e != api.OK || len(x) != i+1 || !sameLinks(x[:i], l) {
				t.Fatal(node, i, e)
			}
			if !sameLink(x[i], api.Link{Node: node, No: i, Prev: headOf(l), Data: []byte(s)}) {
				t.Error(node, i)
			}
			l = x
		}
	}
	if x, e := chain.Add(nil, 4, nil); e != api.OK || len(x) != 1 || x[0].Prev != tagged("none", nil) || len(x[0].Data) > 0 {
		t.Error("the first link", e)
	}
	if x, e := chain.Add([]api.Link{}, 4, []byte{}); e != api.OK || !sameLinks(x, linked(4, "")) {
		t.Error("the first link of an empty list", e)
	}
}

// P8.2: what Add refuses, and which error comes first.
func TestAddRefuses(t *testing.T) {
	full := long(7, 1024)
	fits, tooMuch := make([]byte, 65536), make([]byte, 65537)
	wrong := changed(long(7, 3), 1, func(x *api.Link) { x.No = 2 })
	wrongFull := changed(full, 1023, func(x *api.Link) { x.No = 2 })
	for i, x := range []struct {
		l    []api.Link
		node int
		data []byte
		want api.Errno
	}{
		{nil, 24, nil, api.ErrArg},
		{nil, -1, nil, api.ErrArg},
		{nil, 0, tooMuch, api.ErrArg},
		{nil, 24, tooMuch, api.ErrArg},
		{nil, 23, fits, api.OK},
		{full[:3], 7, fits, api.OK},
		{full[:3], 7, tooMuch, api.ErrArg},
		{full[:3], 6, nil, api.ErrArg},
		{full[:3], 8, nil, api.ErrArg},
		{full[:1], 0, nil, api.ErrArg},
		{full[:1], 24, nil, api.ErrArg},
		{full[:1023], 7, fits, api.OK},
		{full[:1023], 6, nil, api.ErrArg},
		{full, 7, nil, api.ErrLimit},
		{full, 7, fits, api.ErrLimit},
		{full, 7, tooMuch, api.ErrArg},
		{full, 6, nil, api.ErrArg},
		{full, -1, nil, api.ErrArg},
		{long(7, 1025), 7, nil, api.ErrLimit},
		{long(7, 1025), 24, tooMuch, api.ErrLimit},
		{make([]api.Link, 1025), 24, tooMuch, api.ErrLimit},
		{wrong, 7, nil, api.ErrChain},
		{wrong, 24, tooMuch, api.ErrChain},
		{wrong, 6, nil, api.ErrChain},
		{wrongFull, 7, nil, api.ErrChain},
		{wrongFull, 24, tooMuch, api.ErrChain},
		{long(24, 1), 24, nil, api.ErrChain},
		{long(-1, 2), -1, nil, api.ErrChain},
	} {
		got, e := chain.Add(x.l, x.node, x.data)
		want, f := add(x.l, x.node, x.data)
		if e != x.want || f != x.want || !sameLinks(got, want) || e != api.OK && len(got) > 0 {
			t.Error(i, e, f)
		}
	}
	for _, node := range wrongNodes() {
		for _, l := range [][]api.Link{nil, full[:2]} {
			if x, e := chain.Add(l, node, nil); e != api.ErrArg || len(x) > 0 {
				t.Error(node, e)
			}
		}
	}
}

// P8.2: a node can fill its chain, and no more.
func TestAddMany(t *testing.T) {
	var l []api.Link
	for i := range 1024 {
		x, e := chain.Add(l, 9, []byte{byte(i)})
		if e != api.OK {
			t.Fatal(i, e)
		}
		l = x
	}
	if !isChain(l) || len(l) != 1024 {
		t.Error("no chain")
	}
	if x, e := chain.Add(l, 9, nil); e != api.ErrLimit || len(x) > 0 {
		t.Error(e)
	}
}

// P8.3: all chains of one node that were continued in some way, by what the model says.
func TestPart(t *testing.T) {
	var all [][]api.Link
	for n := range 5 {
		for ways := range 1 << n {
			var data []string
			for i := range n {
				data = append(data, []string{"", "x"}[ways>>i&1])
			}
			all = append(all, linked(3, data...))
		}
	}
	parted := 0
	for _, a := range all {
		for _, b := range all {
			i, ok, e := chain.Part(a, deepClone(b))
			wantI, want, f := part(a, b)
			if i != wantI || ok != want || e != f || e != api.OK {
				t.Error(len(a), len(b), i, ok, e)
			}
			if ok {
				parted++
			}
		}
	}
	// Of 31 * 31 pairs, 227 are a chain and a beginning of it.
	if parted != 734 {
		t.Error("pairs that part", parted)
	}
}

// P8.3: the place where long chains part, whichever is the longer one.
func TestPartLong(t *testing.T) {
	a := long(3, 1024)
	for _, at := range []int{0, 1, 2, 511, 1000, 1022, 1023} {
		b := relinked(changed(a, at, func(x *api.Link) { x.Data = []byte("other") }))
		for _, n := range []int{at, at + 1, 1024} {
			for _, pair := range [][2][]api.Link{{a, b[:n]}, {b[:n], a}, {a[:n], b}, {b, a[:n]}} {
				i, ok, e := chain.Part(pair[0], pair[1])
				if e != api.OK || ok != (n > at) || ok && i != at || !ok && i != 0 {
					t.Error(at, n, i, ok, e)
				}
			}
		}
	}
}

// P8.3: data differ by their lengths, and by each byte.
func TestPartData(t *testing.T) {
	a := linked(3, "same", "data", "end")
	for _, other := range []string{"", "d", "dat", "data\x00", "datA", "Data", "dAta", strings.Repeat("data", 1000)} {
		b := linked(3, "same", other, "end")
		for _, pair := range [][2][]api.Link{{a, b}, {b, a}, {a, b[:2]}, {b[:2], a}} {
			if i, ok, e := chain.Part(pair[0], pair[1]); i != 1 || !ok || e != api.OK {
				t.Errorf("%q: %d, %v, %d", other, i, ok, e)
			}
		}
	}
}

// P8.3: errors of the first chain come before those of the second one, and these before different nodes.
func TestPartRefuses(t *testing.T) {
	good, other, tooMany := long(3, 4), long(4, 4), long(3, 1025)
	wrong := changed(good, 2, func(x *api.Link) { x.No = 0 })
	for i, x := range []struct {
		a, b []api.Link
		want api.Errno
	}{
		{nil, nil, api.OK},
		{nil, good, api.OK},
		{good, nil, api.OK},
		{other, []api.Link{}, api.OK},
		{good, good, api.OK},
		{good, other, api.ErrChain},
		{other, good, api.ErrChain},
		{good[:1], other, api.ErrChain},
		{other[:1], good[:1], api.ErrChain},
		{wrong, nil, api.ErrChain},
		{nil, wrong, api.ErrChain},
		{wrong, wrong, api.ErrChain},
		{good[:1], wrong, api.ErrChain},
		{wrong, good[:1], api.ErrChain},
		{tooMany, nil, api.ErrLimit},
		{nil, tooMany, api.ErrLimit},
		{good, tooMany, api.ErrLimit},
		{other, tooMany, api.ErrLimit},
		{tooMany, other, api.ErrLimit},
		{tooMany, wrong, api.ErrLimit},
		{wrong, tooMany, api.ErrChain},
		{long(24, 1), long(24, 1), api.ErrChain},
		{good, long(24, 1), api.ErrChain},
	} {
		at, ok, e := chain.Part(x.a, x.b)
		wantAt, want, f := part(x.a, x.b)
		if e != x.want || f != x.want || at != wantAt || ok != want || e != api.OK && (ok || at != 0) {
			t.Error(i, at, ok, e, f)
		}
	}
}

// P8.4: each beginning of what Add returns is a chain, and the heads of different chains of one length are different.
func TestBeginnings(t *testing.T) {
	r := rand.New(rand.NewSource(8))
	heads := map[api.Digest][]api.Link{}
	for range 300 {
		var l []api.Link
		node := r.Intn(3)
		for range r.Intn(12) {
			l, _ = chain.Add(l, node, []byte{byte(r.Intn(2))})
		}
		for n := range len(l) + 1 {
			if e := chain.Check(l[:n]); e != api.OK || !isChain(l[:n]) {
				t.Error(n, e)
			}
			d := chain.Head(l[:n])
			if other, ok := heads[d]; ok && !sameLinks(other, l[:n]) {
				t.Error("one head", n, len(other))
			}
			heads[d] = l[:n]
		}
	}
	if len(heads) < 500 {
		t.Error("too few chains", len(heads))
	}
}

// P8.4: a link that is replaced by a different one is noticed, unless it was the last one.
func TestReplaced(t *testing.T) {
	for n := 1; n <= 6; n++ {
		l := long(7, n)
		for i := range l {
			before, end := l[:i], l[i+1:]
			for _, s := range []string{"other", "x", strings.Repeat("x", 100)} {
				// What replaces the link is what Add makes of other data.
				x, e := chain.Add(before, 7, []byte(s))
				if e != api.OK {
					t.Fatal(n, i, e)
				}
				e = chain.Check(append(x, end...))
				if (e == api.OK) != (i == n-1) || e != api.OK && e != api.ErrChain {
					t.Error(n, i, e)
				}
			}
		}
	}
}

// P8.1 to P8.4: lists that are changed at random are refused, or accepted, as the definition says.
func TestChanged(t *testing.T) {
	r := rand.New(rand.NewSource(1))
	good := 0
	for range 20000 {
		l := long(r.Intn(3), r.Intn(6))
		for range r.Intn(3) {
			l = spoiled(r, l)
		}
		if r.Intn(3) == 0 {
			l = relinked(l)
		}
		want := check(l)
		if e := chain.Check(l); e != want {
			t.Fatal(l, e)
		}
		if want == api.OK {
			good++
		}
		node, m := r.Intn(3), long(r.Intn(3), r.Intn(6))
		x, e := chain.Add(l, node, []byte("x"))
		wantX, f := add(l, node, []byte("x"))
		if e != f || !sameLinks(x, wantX) {
			t.Fatal(l, node, e)
		}
		i, ok, e := chain.Part(l, m)
		wantI, wantOk, f := part(l, m)
		if i != wantI || ok != wantOk || e != f {
			t.Fatal(l, m, i, ok, e)
		}
		if chain.Head(l) != headOf(l) {
			t.Fatal(l)
		}
	}
	if good < 4000 || good > 16000 {
		t.Error("chains", good)
	}
}

// spoiled changes something in a list of links.
func spoiled(r *rand.Rand, l []api.Link) []api.Link {
	if len(l) == 0 {
		return l
	}
	l = slices.Clone(l)
	i, k := r.Intn(len(l)), r.Intn(len(l))
	switch r.Intn(7) {
	case 0:
		l[i].No = k
	case 1:
		l[i].Node = r.Intn(3)
	case 2:
		l[i].Prev[r.Intn(32)] ^= 1 << r.Intn(8)
	case 3:
		l[i].Data = []byte{byte(r.Intn(256))}
	case 4:
		l[i], l[k] = l[k], l[i]
	case 5:
		l = slices.Delete(l, i, i+1)
	case 6:
		l[i].Prev = l[k].Prev
	}
	return l
}

// P8.1 to P8.3: calls change neither their arguments, nor what lies behind them in memory, nor earlier results.
func TestPure(t *testing.T) {
	memory := long(5, 9)
	for i := range memory {
		memory[i].Data = append(memory[i].Data, "spare"...)[:len(memory[i].Data)]
	}
	was, l := deepClone(memory), memory[:4]
	buffer := []byte("one and more")
	a, e := chain.Add(l, 5, buffer[:3])
	b, f := chain.Add(l, 5, []byte("two"))
	if e != api.OK || f != api.OK {
		t.Fatal(e, f)
	}
	wasA := deepClone(a)
	c, _ := chain.Add(a, 5, []byte("x"))
	d, _ := chain.Add(a, 5, []byte("y"))
	for range 2 {
		chain.Head(l)
		chain.Check(l)
		if i, ok, e := chain.Part(a, b); i != 4 || !ok || e != api.OK {
			t.Error("parts", i, ok, e)
		}
		if i, ok, e := chain.Part(c, d); i != 5 || !ok || e != api.OK {
			t.Error("parts", i, ok, e)
		}
	}
	if !sameLinks(memory, was) || !sameLinks(a, wasA) || string(buffer) != "one and more" {
		t.Error("changed")
	}
	for i := range memory {
		if end := memory[i].Data[:len(memory[i].Data)+5]; string(end[len(end)-5:]) != "spare" {
			t.Error("changed behind data", i)
		}
	}
	copy(buffer, "another")
	if !sameLinks(a, wasA) {
		t.Error("the chain keeps the caller's memory")
	}
}
