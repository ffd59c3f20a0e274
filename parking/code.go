package parking

import (
	"cmp"
	"slices"

	"ferrers/api"
)

const (
	maxCodeEdges = 19
	maxCode      = 18
)

// Code tells for each vertex that is taken off the tree what it hung on (P43).
func Code(l []api.Pair) ([]int, api.Errno) {
	if len(l) > maxCodeEdges {
		return nil, api.ErrLarge
	}
	if len(l) == 0 || !isTree(l, 1) {
		return nil, api.ErrArg
	}
	left := slices.Clone(l)
	ends := make([]int, len(l)+2)
	for _, edge := range l {
		ends[edge.A]++
		ends[edge.B]++
	}
	c := make([]int, 0, len(l)-1)
	for len(left) > 1 {
		leaf := slices.Index(ends, 1)
		k := slices.IndexFunc(left, func(edge api.Pair) bool { return edge.A == leaf || edge.B == leaf })
		other := left[k].A + left[k].B - leaf
		c = append(c, other)
		ends[leaf]--
		ends[other]--
		left = slices.Delete(left, k, k+1)
	}
	return c, api.OK
}

// Tree makes the tree of which Code makes c (P43).
func Tree(c []int) ([]api.Pair, api.Errno) {
	if len(c) > maxCode {
		return nil, api.ErrLarge
	}
	n := len(c) + 2
	if !areWithin(c, 1, n) {
		return nil, api.ErrArg
	}
	// Each vertex is told once for each of its edges but the last one.
	ends := make([]int, n+1)
	for v := 1; v <= n; v++ {
		ends[v] = 1
	}
	for _, v := range c {
		ends[v]++
	}
	l := make([]api.Pair, 0, n-1)
	for _, v := range c {
		leaf := slices.Index(ends, 1)
		l = append(l, edgeOf(leaf, v))
		ends[leaf]--
		ends[v]--
	}
	// Two are left, which hang on one another.
	first := slices.Index(ends, 1)
	last := first + 1 + slices.Index(ends[first+1:], 1)
	return inOrder(append(l, edgeOf(first, last))), api.OK
}

// isTree tells whether the edges are a tree of as many vertices as there are edges and one,
// numbered from the first one on.
func isTree(l []api.Pair, first int) bool {
	last := first + len(l)
	// Vertices that hang together have the same mark.
	marks := make([]int, last+1)
	for v := range marks {
		marks[v] = v
	}
	for _, edge := range l {
		if !areWithin([]int{edge.A, edge.B}, first, last) {
			return false
		}
		from, to := marks[edge.A], marks[edge.B]
		// So many edges make all hang together only if none joins what hung together before.
		if from == to {
			return false
		}
		for v, mark := range marks {
			if mark == from {
				marks[v] = to
			}
		}
	}
	return true
}

// edgeOf is the edge of two vertices as trees tell it.
func edgeOf(v, w int) api.Pair {
	return api.Pair{A: min(v, w), B: max(v, w)}
}

// inOrder puts the edges, which are a list of the call's own, in the order that trees tell them in.
func inOrder(l []api.Pair) []api.Pair {
	slices.SortFunc(l, func(a, b api.Pair) int {
		return cmp.Or(cmp.Compare(a.A, b.A), cmp.Compare(a.B, b.B))
	})
	return l
}
