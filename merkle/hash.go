package merkle

import (
	"bytes"
	"slices"

	"podium/api"
	"podium/digest"
)

// hash is what texts are hashed by: digest.Sum, but in tests also weaker functions, because nobody knows two texts with one digest.Sum.
type hash func(text []byte) api.Digest

// text returns the bytes of the digest of a tag, followed by those of other digests.
func text(tag string, others ...api.Digest) []byte {
	first := digest.Sum([]byte(tag))
	t := first[:]
	for _, d := range others {
		t = append(t, d[:]...)
	}
	return t
}

func leafText(leaf []byte) []byte {
	return append(text("leaf"), leaf...)
}

// firstRow returns the digests of leaves.
func (h hash) firstRow(l [][]byte) (row []api.Digest) {
	for _, leaf := range l {
		row = append(row, h(leafText(leaf)))
	}
	return row
}

// nextRow returns the row after one that has more than one digest.
func (h hash) nextRow(row []api.Digest) (next []api.Digest) {
	for part := range slices.Chunk(row, 2) {
		next = append(next, h.join(part...))
	}
	return next
}

// join returns what a row has for two digests of the row before, or for one that is left alone there.
func (h hash) join(part ...api.Digest) api.Digest {
	if len(part) == 1 {
		return part[0]
	}
	return h(text("node", part...))
}

// root returns the root of at least one leaf.
func (h hash) root(l [][]byte) api.Digest {
	row := h.firstRow(l)
	for len(row) > 1 {
		row = h.nextRow(row)
	}
	return row[0]
}

// prove returns the path of the leaf i, which l has.
func (h hash) prove(l [][]byte, i int) (path []api.Digest) {
	row := h.firstRow(l)
	for s := range steps(len(l), i) {
		if !s.alone() {
			path = append(path, row[s.other()])
		}
		row = h.nextRow(row)
	}
	return path
}

// climb goes along a path that is as long as that of the leaf i of n leaves.
func (h hash) climb(n, i int, leaf []byte, path []api.Digest) api.Digest {
	d := h(leafText(leaf))
	for s := range steps(n, i) {
		if s.alone() {
			continue
		}
		d = h(s.text(d, path[0]))
		path = path[1:]
	}
	return d
}

// collide returns two different texts with one digest, if two leaves lead to one root.
func (h hash) collide(n, i int, a, b []byte, p, q []api.Digest) (x, y []byte, ok bool) {
	if checkPath(n, i, p) != api.OK || checkPath(n, i, q) != api.OK || bytes.Equal(a, b) {
		return nil, nil, false
	}
	if h.climb(n, i, a, p) != h.climb(n, i, b, q) {
		return nil, nil, false
	}
	x, y = h.firstCommon(n, i, leafText(a), leafText(b), p, q)
	return x, y, true
}

// firstCommon follows two ways from the texts x and y of their leaves to the first row in which both have the same digest, and returns the texts of this digest. The ways end with one root.
func (h hash) firstCommon(n, i int, x, y []byte, p, q []api.Digest) ([]byte, []byte) {
	d, f := h(x), h(y)
rows:
	for s := range steps(n, i) {
		switch {
		case d == f:
			break rows
		case s.alone():
			continue rows
		}
		x, y = s.text(d, p[0]), s.text(f, q[0])
		d, f = h(x), h(y)
		p, q = p[1:], q[1:]
	}
	return x, y
}
