package digest

import (
	"math/bits"

	"podium/api"
)

func leaf(d api.Digest) api.Digest {
	return Tagged("leaf", d[:])
}

// pair hashes two digests under a tag.
func pair(tag string, a, b api.Digest) api.Digest {
	return Tagged(tag, append(a[:], b[:]...))
}

// firstPart returns the greatest power of 2 less than n; n is at least 2.
func firstPart(n int) int {
	return 1 << (bits.Len(uint(n-1)) - 1)
}

// pathIn returns the path of the element with the index at, which l has.
func pathIn(l []api.Digest, at int) []api.Digest {
	if len(l) == 1 {
		return nil
	}
	k := firstPart(len(l))
	if at < k {
		return append(pathIn(l[:k], at), Tree(l[k:]))
	}
	return append(pathIn(l[k:], at-k), Tree(l[:k]))
}

// pathLength returns how many digests the path of an element has, whatever the elements are.
func pathLength(at, n int) int {
	if n == 1 {
		return 0
	}
	k := firstPart(n)
	if at < k {
		return 1 + pathLength(at, k)
	}
	return 1 + pathLength(at-k, n-k)
}

// climb goes along a path that has the length of the element's own one.
func climb(d api.Digest, at, n int, path []api.Digest) api.Digest {
	if n == 1 {
		return leaf(d)
	}
	below, other := path[:len(path)-1], path[len(path)-1]
	k := firstPart(n)
	if at < k {
		return pair("node", climb(d, at, k, below), other)
	}
	return pair("node", other, climb(d, at-k, n-k, below))
}
