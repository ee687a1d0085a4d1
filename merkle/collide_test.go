package merkle_test

import (
	"bytes"
	"math/rand"
	"slices"
	"testing"

	"podium/api"
	"podium/merkle"
)

// forced is a hash function by which the text b, and no other one, has the digest of the text a.
func forced(a, b []byte) model {
	return func(text []byte) api.Digest {
		if bytes.Equal(text, b) {
			return strong(a)
		}
		return strong(text)
	}
}

// P7.2: without two texts with one digest there is nothing to return.
func TestCollideNothing(t *testing.T) {
	for _, n := range sizes()[:20] {
		l := leaves(n)
		for i := range l {
			p, _ := merkle.Prove(l, i)
			for k := range l {
				q, _ := merkle.Prove(l, k)
				for _, r := range [][]api.Digest{p, q, digests(len(p))} {
					if x, y, ok := merkle.Collide(n, i, l[i], l[k], p, r); ok || len(x)+len(y) > 0 {
						t.Error(n, i, k)
					}
					if x, y, ok := merkle.Collide(n, i, l[k], l[i], r, p); ok || len(x)+len(y) > 0 {
						t.Error(n, i, k)
					}
				}
			}
		}
	}
}

// P7.2: where all texts have one digest, only errors and equal leaves keep Collide from returning something.
func TestCollideRefuses(t *testing.T) {
	a, b, l := []byte("a"), []byte("b"), digests(20)
	refused := func(n, i int, a, b []byte, p, q []api.Digest) bool {
		x, y, ok := merkle.CollideBy(weak(1), n, i, a, b, p, q)
		return !ok && len(x)+len(y) == 0
	}
	for n := 1; n <= 40; n++ {
		for i := range n {
			right := lengthOfParts(n, i)
			for s := range 9 {
				for k := range 9 {
					if refused(n, i, a, b, l[:s], l[:k]) != (s != right || k != right) {
						t.Error("lengths", n, i, s, k)
					}
				}
			}
			p, q := l[:right], l[5:5+right]
			if !refused(n, i, a, a, p, q) || !refused(n, i, a, []byte("a"), p, p) || !refused(n, i, nil, []byte{}, p, q) {
				t.Error("equal leaves", n, i)
			}
			if refused(n, i, nil, a, p, q) || refused(n, i, a, []byte("aa"), p, p) || refused(n, i, a, []byte("a\x00"), p, p) {
				t.Error("different leaves", n, i)
			}
		}
	}
	for _, x := range wrongPlaces() {
		for s := range 20 {
			if !refused(x[0], x[1], a, b, l[:s], l[:s]) {
				t.Error(x, s)
			}
		}
	}
}

// P7.2 to P7.4: two texts with one digest are found in whatever row they are.
func TestCollideForced(t *testing.T) {
	a, b, l := []byte("one"), []byte("another"), digests(40)
	for _, n := range append(sizes()[:33], 100, 32769, 65536) {
		for i := 0; i < n; i += 1 + n/40 {
			for _, i := range []int{i, n - 1 - i} {
				size := lengthOfParts(n, i)
				for common := range size + 1 {
					// Before the texts in common the paths differ, and after them they are the same.
					p, q := l[:size], append(slices.Clone(l[16:16+common]), l[common:size]...)
					checkForced(t, n, i, common, a, b, p, q)
				}
			}
		}
	}
}

// checkForced gives one digest to the texts of both ways after as many steps.
func checkForced(t *testing.T, n, i, common int, a, b []byte, p, q []api.Digest) {
	t.Helper()
	wantX, wantY := textAfter(n, i, common, a, p), textAfter(n, i, common, b, q)
	h := forced(wantX, wantY)
	if x, y, ok := merkle.CollideBy(h, n, i, a, b, p, q); !ok || !bytes.Equal(x, wantX) || !bytes.Equal(y, wantY) {
		t.Error(n, i, common, ok, len(x), len(y))
	}
	if x, y, ok := merkle.CollideBy(h, n, i, b, a, q, p); !ok || !bytes.Equal(x, wantY) || !bytes.Equal(y, wantX) {
		t.Error("exchanged", n, i, common, ok, len(x), len(y))
	}
	if common < len(q) {
		q = slices.Clone(q)
		q[len(q)-1][0] ^= 1
		if x, y, ok := merkle.CollideBy(h, n, i, a, b, p, q); ok || len(x)+len(y) > 0 {
			t.Error("different roots", n, i, common)
		}
	}
}

// textAfter returns the text on a way after as many digests of its path.
func textAfter(n, i, count int, leaf []byte, path []api.Digest) []byte {
	_, texts := model(strong).way(n, i, leaf, path)
	texts = slices.CompactFunc(texts, bytes.Equal)
	return texts[count]
}

// P7.1 to P7.4: over weak hash functions, by which different texts often have one digest, everything is as the definitions say.
func TestWeak(t *testing.T) {
	r := rand.New(rand.NewSource(7))
	found, same, later, early := 0, 0, 0, 0
	for range 60000 {
		h := weak(byte(1 + r.Intn(5)))
		n := 1 + r.Intn(1+r.Intn(40))
		i := r.Intn(n)
		a, b := []byte{byte(r.Intn(30))}, []byte{byte(r.Intn(30))}
		p, q := make([]api.Digest, lengthOfParts(n, i)), make([]api.Digest, lengthOfParts(n, i))
		for k := range p {
			p[k], q[k] = h([]byte{byte(r.Intn(20))}), h([]byte{byte(r.Intn(20))})
		}
		x, y, ok := merkle.CollideBy(h, n, i, a, b, p, q)
		wantX, wantY, want := h.collide(n, i, a, b, p, q)
		if ok != want || !bytes.Equal(x, wantX) || !bytes.Equal(y, wantY) {
			t.Fatal(n, i, a, b, ok, want)
		}
		oneRoot := merkle.ClimbBy(h, n, i, a, p) == merkle.ClimbBy(h, n, i, b, q)
		if ok != (oneRoot && !bytes.Equal(a, b)) || ok && (bytes.Equal(x, y) || h(x) != h(y)) {
			t.Fatal("consequences", n, i, a, b, ok)
		}
		switch {
		case ok && bytes.Equal(x, leafText(a)):
			found++
		case ok:
			later++
		case bytes.Equal(a, b):
			same++
		case h(leafText(a)) == h(leafText(b)):
			early++
		}
	}
	if min(found, same, later, early) < 500 {
		t.Error("too few of a kind", found, same, later, early)
	}
}

// P7.1, P7.3: over weak hash functions, too, a path leads to the root.
func TestWeakPaths(t *testing.T) {
	for n := 1; n <= 40; n++ {
		for kinds := byte(1); kinds < 6; kinds++ {
			h, l := weak(kinds), leaves(n)
			root := merkle.RootBy(h, l)
			if root != h.root(l) {
				t.Error("root", n, kinds)
			}
			for i := range l {
				p := merkle.ProveBy(h, l, i)
				if !slices.Equal(p, h.path(l, i)) || merkle.ClimbBy(h, n, i, l[i], p) != root || h.climb(n, i, l[i], p) != root {
					t.Error("path", n, kinds, i)
				}
			}
		}
	}
}

// P7.3: two different lists with one root and one length show two different texts with one digest, at each place at which they differ.
func TestTwoLists(t *testing.T) {
	r := rand.New(rand.NewSource(3))
	found := 0
	for range 4000 {
		h, n := weak(byte(1+r.Intn(6))), 1+r.Intn(20)
		l, m := make([][]byte, n), make([][]byte, n)
		for i := range l {
			l[i], m[i] = []byte{byte(r.Intn(9))}, []byte{byte(r.Intn(9))}
		}
		if merkle.RootBy(h, l) != merkle.RootBy(h, m) {
			continue
		}
		for i := range l {
			x, y, ok := merkle.CollideBy(h, n, i, l[i], m[i], merkle.ProveBy(h, l, i), merkle.ProveBy(h, m, i))
			if ok == bytes.Equal(l[i], m[i]) || ok && (bytes.Equal(x, y) || h(x) != h(y)) {
				t.Error(n, i, ok)
			}
			if ok {
				found++
			}
		}
	}
	if found < 1000 {
		t.Error("too few lists", found)
	}
}
