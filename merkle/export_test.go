package merkle

import "podium/api"

// The functions of the package over another hash function, for tests of what no two known texts show.

func RootBy(h func(text []byte) api.Digest, l [][]byte) api.Digest {
	return hash(h).root(l)
}

func ProveBy(h func(text []byte) api.Digest, l [][]byte, i int) []api.Digest {
	return hash(h).prove(l, i)
}

func ClimbBy(h func(text []byte) api.Digest, n, i int, leaf []byte, path []api.Digest) api.Digest {
	return hash(h).climb(n, i, leaf, path)
}

func CollideBy(h func(text []byte) api.Digest, n, i int, a, b []byte, p, q []api.Digest) (x, y []byte, ok bool) {
	return hash(h).collide(n, i, a, b, p, q)
}
