package merkle

import (
	"iter"

	"podium/api"
)

// step is where a way leaves a row for the next one: its place, and how many digests the row has.
type step struct{ at, size int }

// steps yields the steps of the way of the leaf i of n leaves.
func steps(n, i int) iter.Seq[step] {
	return func(yield func(s step) bool) {
		for at, size := i, n; size > 1; at, size = at/2, (size+1)/2 {
			if !yield(step{at, size}) {
				return
			}
		}
	}
}

// other returns the place of the digest that is hashed together with the one at the place of the way.
func (s step) other() int {
	return s.at ^ 1
}

// alone reports whether no digest is hashed together with the one at the place of the way.
func (s step) alone() bool {
	return s.other() >= s.size
}

// text returns the text of the digest at the place of the way and of the other one, in their order.
func (s step) text(d, other api.Digest) []byte {
	if s.other() < s.at {
		return text("node", other, d)
	}
	return text("node", d, other)
}

// isPlace reports whether i is the place of a leaf in a list of n leaves, which is not too long.
func isPlace(n, i int) bool {
	return n <= api.MaxLeaves && 0 <= i && i < n
}

// checkPath returns an error unless a path is as long as that of the leaf i of n leaves.
func checkPath(n, i int, path []api.Digest) api.Errno {
	if !isPlace(n, i) {
		return api.ErrArg
	}
	if len(path) != pathLength(n, i) {
		return api.ErrPath
	}
	return api.OK
}

func pathLength(n, i int) (length int) {
	for s := range steps(n, i) {
		if !s.alone() {
			length++
		}
	}
	return length
}
