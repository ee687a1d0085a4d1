package merkle_test

import (
	"bytes"
	"crypto/sha256"

	"podium/api"
)

// model follows the definitions literally, over any hash function.
type model func(text []byte) api.Digest

func strong(text []byte) api.Digest { return sha256.Sum256(text) }

// weak has only a few digests, so that many texts have the same one.
func weak(digests byte) model {
	return func(text []byte) (d api.Digest) {
		d[7] = strong(text)[0] % digests
		return d
	}
}

func leafText(leaf []byte) []byte {
	t := sha256.Sum256([]byte("leaf"))
	return append(t[:], leaf...)
}

func nodeText(a, b api.Digest) []byte {
	t := sha256.Sum256([]byte("node"))
	return bytes.Join([][]byte{t[:], a[:], b[:]}, nil)
}

// rows returns the rows of at least one leaf.
func (m model) rows(l [][]byte) (rows [][]api.Digest) {
	var row []api.Digest
	for _, leaf := range l {
		row = append(row, m(leafText(leaf)))
	}
	for rows = append(rows, row); len(row) > 1; rows = append(rows, row) {
		var next []api.Digest
		for k := 1; k < len(row); k += 2 {
			next = append(next, m(nodeText(row[k-1], row[k])))
		}
		if len(row)%2 == 1 {
			next = append(next, row[len(row)-1])
		}
		row = next
	}
	return rows
}

func (m model) root(l [][]byte) api.Digest {
	if len(l) == 0 {
		none := sha256.Sum256([]byte("none"))
		return sha256.Sum256(none[:])
	}
	rows := m.rows(l)
	return rows[len(rows)-1][0]
}

func (m model) path(l [][]byte, i int) (path []api.Digest) {
	rows := m.rows(l)
	for _, row := range rows[:len(rows)-1] {
		if i%2 == 1 {
			path = append(path, row[i-1])
		} else if i+1 < len(row) {
			path = append(path, row[i+1])
		}
		i /= 2
	}
	return path
}

// way returns, for each row, what the leaf i of n leaves with a path has there, and of which text. The path is as long as it must be.
func (m model) way(n, i int, leaf []byte, path []api.Digest) (row []api.Digest, texts [][]byte) {
	text := leafText(leaf)
	for {
		d := m(text)
		row, texts = append(row, d), append(texts, text)
		if n == 1 {
			return row, texts
		}
		if i%2 == 1 {
			text, path = nodeText(path[0], d), path[1:]
		} else if i+1 < n {
			text, path = nodeText(d, path[0]), path[1:]
		}
		n, i = (n+1)/2, i/2
	}
}

func (m model) climb(n, i int, leaf []byte, path []api.Digest) api.Digest {
	row, _ := m.way(n, i, leaf, path)
	return row[len(row)-1]
}

// collide compares two ways; both paths are as long as they must be.
func (m model) collide(n, i int, a, b []byte, p, q []api.Digest) (x, y []byte, ok bool) {
	if string(a) == string(b) || m.climb(n, i, a, p) != m.climb(n, i, b, q) {
		return nil, nil, false
	}
	d, s := m.way(n, i, a, p)
	f, t := m.way(n, i, b, q)
	for k := range d {
		if d[k] == f[k] {
			return s[k], t[k], true
		}
	}
	return nil, nil, false
}

// firstPart returns the greatest power of two less than n.
func firstPart(n int) int {
	k := 1
	for 2*k < n {
		k *= 2
	}
	return k
}

// rootOfParts, lengthOfParts and climbOfParts divide lists in two, as P7.4 does, and know nothing of rows.

func rootOfParts(l [][]byte) api.Digest {
	if len(l) == 1 {
		return strong(leafText(l[0]))
	}
	k := firstPart(len(l))
	return strong(nodeText(rootOfParts(l[:k]), rootOfParts(l[k:])))
}

func lengthOfParts(n, i int) int {
	if n == 1 {
		return 0
	}
	k := firstPart(n)
	if i < k {
		return 1 + lengthOfParts(k, i)
	}
	return 1 + lengthOfParts(n-k, i-k)
}

func climbOfParts(n, i int, leaf []byte, path []api.Digest) api.Digest {
	if n == 1 {
		return strong(leafText(leaf))
	}
	k, last := firstPart(n), len(path)-1
	if i < k {
		return strong(nodeText(climbOfParts(k, i, leaf, path[:last]), path[last]))
	}
	return strong(nodeText(path[last], climbOfParts(n-k, i-k, leaf, path[:last])))
}
