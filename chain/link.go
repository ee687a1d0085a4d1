package chain

import (
	"iter"

	"podium/api"
	"podium/codec"
)

// beginnings yields, for each link of l, the links before it, with their head.
func beginnings(l []api.Link) iter.Seq2[[]api.Link, api.Digest] {
	return func(yield func(before []api.Link, head api.Digest) bool) {
		for i := range l {
			if !yield(l[:i], Head(l[:i])) {
				return
			}
		}
	}
}

// continues reports whether a chain with this head and the link x behind it are a chain.
func continues(chain []api.Link, head api.Digest, x api.Link) bool {
	return fits(chain, x.Node, x.Data) && x.No == len(chain) && x.Prev == head
}

// fits reports whether a link of this node, with these data, can stand behind a chain, however long it is.
func fits(chain []api.Link, node int, data []byte) bool {
	return 0 <= node && node < api.MaxNodes && isOf(chain, node) && len(data) <= api.MaxSource
}

// isOf reports whether the links of a chain, if there are some, are those of this node.
func isOf(chain []api.Link, node int) bool {
	return len(chain) == 0 || chain[0].Node == node
}

// checkBoth returns an error unless both lists are chains, and chains of one node, if both have links.
func checkBoth(a, b []api.Link) api.Errno {
	if e := Check(a); e != api.OK {
		return e
	}
	if e := Check(b); e != api.OK {
		return e
	}
	if len(a) > 0 && !isOf(b, a[0].Node) {
		return api.ErrChain
	}
	return api.OK
}

// firstDifferent returns the least index at which both lists have an element, and these are not the same.
func firstDifferent[T any](a, b []T, same func(x, y T) bool) (at int, ok bool) {
	for i := range min(len(a), len(b)) {
		if !same(a[i], b[i]) {
			return i, true
		}
	}
	return 0, false
}

// text returns the encoding of a list of integers and texts. Such a list always has one.
func text(l ...api.Value) []byte {
	b, _ := codec.Encode(api.Value{Kind: api.ListV, L: l})
	return b
}

func integer(n int) api.Value {
	return api.Value{Kind: api.IntV, N: n}
}

func bytesOf(b []byte) api.Value {
	return api.Value{Kind: api.TextV, S: string(b)}
}
