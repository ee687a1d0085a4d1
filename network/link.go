package network

import (
	"iter"
	"slices"
)

// linkOf returns the link between two parties, the lesser one first, so that it is the same in both directions.
func linkOf(a, b int) [2]int {
	return [2]int{min(a, b), max(a, b)}
}

func compareLinks(a, b [2]int) int {
	return slices.Compare(a[:], b[:])
}

// mended returns a new list of the links that are cut without one of them.
func mended(list [][2]int, link [2]int) (left [][2]int) {
	for l := range others(list, link) {
		left = append(left, l)
	}
	return left
}

// others yields all links of a list but one.
func others(list [][2]int, but [2]int) iter.Seq[[2]int] {
	return func(yield func(link [2]int) bool) {
		for _, l := range list {
			if l != but && !yield(l) {
				return
			}
		}
	}
}
