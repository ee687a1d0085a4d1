package merkle_test

import (
	"bytes"
	"crypto/sha256"
	"fmt"
	"math"
	"slices"
	"testing"

	"podium/api"
	"podium/digest"
	"podium/merkle"
)

func leaf(b []byte) api.Digest { return digest.Tagged("leaf", b) }

func node(a, b api.Digest) api.Digest { return digest.Tagged("node", append(a[:], b[:]...)) }

// leaves returns n different leaves of different lengths, the first one without bytes.
func leaves(n int) [][]byte {
	l := make([][]byte, n)
	for i := range l {
		l[i] = bytes.Repeat([]byte(fmt.Sprint(i)), i%40)
	}
	return l
}

// digests returns n different digests.
func digests(n int) []api.Digest {
	l := make([]api.Digest, n)
	for i := range l {
		l[i] = sha256.Sum256([]byte(fmt.Sprint("digest ", i)))
	}
	return l
}

func isZero(d api.Digest) bool { return d == api.Digest{} }

// sizes are lengths of lists around powers of two and between them.
func sizes() (l []int) {
	for n := 1; n <= 40; n++ {
		l = append(l, n)
	}
	return append(l, 63, 64, 65, 96, 97, 100, 127, 128, 129, 191, 192, 193)
}

// P7.1: roots of short lists, by hand.
func TestRoot(t *testing.T) {
	l := leaves(9)
	x := make([]api.Digest, len(l))
	for i, b := range l {
		x[i] = leaf(b)
	}
	ab, cd, ef, gh := node(x[0], x[1]), node(x[2], x[3]), node(x[4], x[5]), node(x[6], x[7])
	for n, want := range []api.Digest{
		digest.Tagged("none", nil),
		x[0],
		ab,
		node(ab, x[2]),
		node(ab, cd),
		node(node(ab, cd), x[4]),
		node(node(ab, cd), ef),
		node(node(ab, cd), node(ef, x[6])),
		node(node(ab, cd), node(ef, gh)),
		node(node(node(ab, cd), node(ef, gh)), x[8]),
	} {
		if merkle.Root(l[:n]) != want {
			t.Error(n)
		}
	}
}

// P7.1: lists and leaves without elements, be they nil or empty.
func TestRootEmpty(t *testing.T) {
	if merkle.Root([][]byte{}) != merkle.Root(nil) {
		t.Error("no leaves")
	}
	for n := 1; n < 6; n++ {
		l, m := make([][]byte, n), make([][]byte, n)
		for i := range m {
			m[i] = []byte{}
		}
		if merkle.Root(l) != merkle.Root(m) || merkle.Root(l) != rootOfParts(l) {
			t.Error(n)
		}
	}
}

// P7.1, P7.4: roots follow from the rows, and from the two parts of a list.
func TestRootOfRows(t *testing.T) {
	for _, n := range append(sizes(), 255, 256, 257, 1000, 1023, 1024, 1025) {
		l := leaves(n)
		got := merkle.Root(l)
		if got != model(strong).root(l) || got != rootOfParts(l) {
			t.Error(n)
		}
		if n == 1 {
			continue
		}
		k := firstPart(n)
		if got != node(merkle.Root(l[:k]), merkle.Root(l[k:])) {
			t.Error("parts", n)
		}
	}
}

// P7.1: the bytes of leaves, their order, their number and their limits count.
func TestRootDistinguishes(t *testing.T) {
	l := leaves(7)
	all := map[api.Digest]string{}
	add := func(name string, l [][]byte) {
		d := merkle.Root(l)
		if other := all[d]; other != "" {
			t.Errorf("%s and %s", name, other)
		}
		all[d] = name
	}
	for n := range 8 {
		add(fmt.Sprint("the first ", n), l[:n])
	}
	for i := range l {
		other := slices.Clone(l)
		other[i] = append([]byte{0}, l[i]...)
		add(fmt.Sprint("a byte before leaf ", i), other)
		other[i] = append(slices.Clone(l[i]), 0)
		if i > 0 {
			add(fmt.Sprint("a byte behind leaf ", i), other)
		}
		add(fmt.Sprint("the last one again, after ", i+1), append(slices.Clone(l[:i+1]), l[i]))
		for k := range i {
			other := slices.Clone(l)
			other[i], other[k] = l[k], l[i]
			add(fmt.Sprint("exchanged ", i, k), other)
		}
	}
	a, b := leaf(l[0]), leaf(l[1])
	add("a leaf with the bytes of two digests", [][]byte{append(a[:], b[:]...)})
	add("a leaf with the bytes of a leaf's text", [][]byte{leafText(l[1])})
	add("a leaf with the bytes of a node's text", [][]byte{nodeText(a, b)})
	add("leaves with the bytes of digests", [][]byte{a[:], b[:]})
	add("ab, c", [][]byte{[]byte("ab"), []byte("c")})
	add("a, bc", [][]byte{[]byte("a"), []byte("bc")})
	add("abc", [][]byte{[]byte("abc")})
	add("abc, nothing", [][]byte{[]byte("abc"), nil})
	add("nothing, abc", [][]byte{nil, []byte("abc")})
}

// P7.1: paths of leaves of short lists, by hand.
func TestProve(t *testing.T) {
	l := leaves(7)
	x := make([]api.Digest, len(l))
	for i, b := range l {
		x[i] = leaf(b)
	}
	ab, cd, ef := node(x[0], x[1]), node(x[2], x[3]), node(x[4], x[5])
	abcd := node(ab, cd)
	for i, c := range []struct {
		n, at int
		want  []api.Digest
	}{
		{1, 0, nil},
		{2, 0, []api.Digest{x[1]}},
		{2, 1, []api.Digest{x[0]}},
		{3, 0, []api.Digest{x[1], x[2]}},
		{3, 1, []api.Digest{x[0], x[2]}},
		{3, 2, []api.Digest{ab}},
		{4, 1, []api.Digest{x[0], cd}},
		{4, 2, []api.Digest{x[3], ab}},
		{5, 3, []api.Digest{x[2], ab, x[4]}},
		{5, 4, []api.Digest{abcd}},
		{6, 0, []api.Digest{x[1], cd, ef}},
		{6, 4, []api.Digest{x[5], abcd}},
		{6, 5, []api.Digest{x[4], abcd}},
		{7, 2, []api.Digest{x[3], ab, node(ef, x[6])}},
		{7, 5, []api.Digest{x[4], x[6], abcd}},
		{7, 6, []api.Digest{ef, abcd}},
	} {
		if p, e := merkle.Prove(l[:c.n], c.at); e != api.OK || !slices.Equal(p, c.want) {
			t.Error(i, len(p), e)
		}
	}
}

// P7.1: no leaf of a list has an index outside of it.
func TestProveRefuses(t *testing.T) {
	for _, n := range []int{0, 1, 2, 3, 5, 8} {
		for _, i := range []int{math.MinInt, math.MinInt + n, -1 << 32, -n - 1, -1, n, n + 1, 1 << 16, 1 << 32, math.MaxInt} {
			if p, e := merkle.Prove(leaves(n), i); e != api.ErrArg || len(p) > 0 {
				t.Error(n, i, e)
			}
		}
	}
	if p, e := merkle.Prove(nil, 0); e != api.ErrArg || len(p) > 0 {
		t.Error(e)
	}
}

// P7.1: lists with more than 65536 leaves have no paths.
func TestProveLimit(t *testing.T) {
	for _, n := range []int{65537, 65538, 131072} {
		for _, i := range []int{-1, 0, 1, 65535, 65536, n - 1, n} {
			if p, e := merkle.Prove(make([][]byte, n), i); e != api.ErrArg || len(p) > 0 {
				t.Error(n, i, e)
			}
		}
	}
}

// P7.1 to P7.4: the path of each leaf of many lists is that of the rows, and leads to the root.
func TestClimbOfPath(t *testing.T) {
	for _, n := range sizes() {
		l := leaves(n)
		root := merkle.Root(l)
		for i := range l {
			p, e := merkle.Prove(l, i)
			if e != api.OK || !slices.Equal(p, model(strong).path(l, i)) || len(p) != lengthOfParts(n, i) || len(p) > 16 {
				t.Error("path", n, i, e)
			}
			if d, e := merkle.Climb(n, i, l[i], p); e != api.OK || d != root {
				t.Error("root", n, i, e)
			}
		}
	}
}

// P7.2: what follows for the root from any digests, be they those of a list or not.
func TestClimbAnywhere(t *testing.T) {
	l := digests(20)
	for k, n := range append(sizes(), 1000, 32767, 32768, 32769, 49152, 49153, 65534, 65535, 65536) {
		for i := 0; i < n; i += 1 + n/60 {
			for _, i := range []int{i, n - 1 - i} {
				p, b := l[k%3:k%3+lengthOfParts(n, i)], bytes.Join(leaves(i%41), nil)
				if d, e := merkle.Climb(n, i, b, p); e != api.OK || d != climbOfParts(n, i, b, p) {
					t.Error(n, i, e)
				}
			}
		}
	}
}

// P7.2: with another leaf, at another place, or with another path, the root is another one.
func TestClimbElsewhere(t *testing.T) {
	for _, n := range []int{5, 8, 11} {
		l := leaves(n)
		root := merkle.Root(l)
		for i := range l {
			p, _ := merkle.Prove(l, i)
			for k := range l {
				if d, e := merkle.Climb(n, i, l[k], p); e != api.OK || (d == root) != (i == k) {
					t.Error("leaf", n, i, k, e)
				}
				if d, e := merkle.Climb(n, k, l[i], p); e == api.OK && (d == root) != (i == k) {
					t.Error("place", n, i, k)
				}
			}
			for k := range p {
				wrong := slices.Clone(p)
				wrong[k][31] ^= 1
				if d, e := merkle.Climb(n, i, l[i], wrong); e != api.OK || d == root {
					t.Error("path", n, i, k, e)
				}
			}
		}
	}
}

// P7.2: Climb accepts a path by its length alone.
func TestClimbLengths(t *testing.T) {
	l := digests(20)
	for n := 1; n <= 70; n++ {
		for i := range n {
			for size := range 10 {
				d, e := merkle.Climb(n, i, []byte("x"), l[:size])
				if right := size == lengthOfParts(n, i); right && (e != api.OK || isZero(d)) || !right && (e != api.ErrPath || !isZero(d)) {
					t.Error(n, i, size, e)
				}
			}
		}
	}
	for _, x := range []struct{ n, i, length int }{
		{65536, 0, 16}, {65536, 65535, 16}, {65536, 32768, 16}, {65535, 65534, 15}, {65535, 0, 16}, {65534, 65533, 15},
		{32769, 32768, 1}, {32769, 32767, 16}, {32770, 32769, 2}, {32768, 32767, 15}, {49153, 49152, 2}, {40961, 40960, 2},
	} {
		for size := range 20 {
			d, e := merkle.Climb(x.n, x.i, nil, l[:size])
			if right := size == x.length; right && (e != api.OK || isZero(d)) || !right && (e != api.ErrPath || !isZero(d)) {
				t.Error(x.n, x.i, size, e)
			}
		}
	}
}

// wrongPlaces returns numbers of leaves, and places that they do not have.
func wrongPlaces() [][2]int {
	return [][2]int{
		{0, 0}, {0, -1}, {0, 1}, {-1, 0}, {-1, -1}, {-1, -2}, {-2, -1}, {math.MinInt, 0}, {math.MinInt, math.MinInt},
		{1, -1}, {1, 1}, {1, 2}, {2, -1}, {2, 2}, {3, -1}, {3, 3}, {3, 4}, {5, 8}, {5, math.MinInt}, {5, math.MaxInt},
		{1, 1 << 32}, {2, 1<<32 + 1}, {65536, -1}, {65536, 65536}, {65536, math.MaxInt},
		{65537, 0}, {65537, 65535}, {65537, 65536}, {65537, 65537}, {65537, -1}, {65538, 65537}, {131072, 5},
		{1 << 32, 0}, {1<<32 + 1, 0}, {math.MaxInt, 0}, {math.MaxInt, math.MaxInt - 1}, {math.MaxInt, math.MaxInt},
	}
}

// P7.2: places that no leaf has are refused before the length of the path is looked at.
func TestClimbRefuses(t *testing.T) {
	for _, x := range wrongPlaces() {
		for size := range 65 {
			if d, e := merkle.Climb(x[0], x[1], []byte("x"), digests(size)); e != api.ErrArg || !isZero(d) {
				t.Error(x, size, e)
			}
		}
	}
}

// P7.1, P7.2, P7.4: the longest lists.
func TestLarge(t *testing.T) {
	for _, n := range []int{api.MaxLeaves, api.MaxLeaves - 1, api.MaxLeaves/2 + 1} {
		l := leaves(n)
		root := merkle.Root(l)
		if root != rootOfParts(l) {
			t.Error(n)
		}
		for _, i := range []int{0, 12345, n - 1} {
			p, e := merkle.Prove(l, i)
			if e != api.OK || len(p) != lengthOfParts(n, i) || len(p) > 16 {
				t.Error(n, i, e, len(p))
			}
			if d, e := merkle.Climb(n, i, l[i], p); e != api.OK || d != root {
				t.Error(n, i, e)
			}
		}
	}
}

// P7.1, P7.2: leaves of many bytes.
func TestLongLeaves(t *testing.T) {
	l := [][]byte{make([]byte, 1<<20), bytes.Repeat([]byte{255}, 1<<20+1), nil}
	root := node(node(leaf(l[0]), leaf(l[1])), leaf(nil))
	if merkle.Root(l) != root {
		t.Error("root")
	}
	p, e := merkle.Prove(l, 1)
	if d, f := merkle.Climb(3, 1, l[1], p); e != api.OK || f != api.OK || d != root {
		t.Error(e, f)
	}
}

const copies = 5

// room returns the same elements, with all of them again behind them, several times, where no call may change them.
func room[T any](l []T) []T {
	return slices.Repeat(l, copies)[:len(l)]
}

// P7.1 to P7.3: calls change neither their arguments, nor what is behind them, nor earlier results.
func TestPure(t *testing.T) {
	const n = 11
	l, want := make([][]byte, n), leaves(n)
	for i := range l {
		l[i] = room(want[i])
	}
	list, path := room(l), room(digests(4))
	keptPath, keptText := [][]api.Digest{}, [][]byte{}
	for i := range n {
		merkle.Root(list[:i])
		p, _ := merkle.Prove(list, i)
		keptPath = append(keptPath, p)
		merkle.Climb(n, i, list[i], p)
		merkle.Climb(n, i, list[i], path)
		merkle.Collide(n, i, list[i], list[(i+1)%n], p, path)
		x, y, _ := merkle.CollideBy(weak(1), n, i, list[i], list[(i+1)%n], p, p)
		keptText = append(keptText, x, y)
	}
	for i, b := range list[:copies*n] {
		if !bytes.Equal(b, want[i%n]) || !bytes.Equal(b[:copies*len(b)], bytes.Repeat(want[i%n], copies)) {
			t.Error("leaf", i)
		}
	}
	if !slices.Equal(path[:copies*4], slices.Repeat(digests(4), copies)) {
		t.Error("path")
	}
	for i, p := range keptPath {
		if !slices.Equal(p, model(strong).path(want, i)) {
			t.Error("path that was returned", i)
		}
	}
	for i := range n {
		if !bytes.Equal(keptText[2*i], leafText(want[i])) || !bytes.Equal(keptText[2*i+1], leafText(want[(i+1)%n])) {
			t.Error("texts that were returned", i)
		}
	}
}
