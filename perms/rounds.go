package perms

import (
	"slices"

	"ferrers/api"
)

// Rounds writes the cycles of p one behind the other (P9).
func Rounds(p []int) ([]int, api.Errno) {
	if err := Check(p); err != api.OK {
		return nil, err
	}
	q := make([]int, 0, len(p))
	for n := 1; n <= len(p); n++ {
		// Each cycle is met once for each of its numbers, and is taken at its greatest.
		if cycle := cycleFrom(p, n); slices.Max(cycle) == n {
			q = append(q, cycle...)
		}
	}
	return q, api.OK
}

// Unrounds makes the permutation of which Rounds makes q (P9).
func Unrounds(q []int) ([]int, api.Errno) {
	if err := Check(q); err != api.OK {
		return nil, err
	}
	p := make([]int, len(q))
	greatest := 0
	for i, n := range q {
		greatest = max(greatest, n)
		// A number above all ahead begins a cycle, so the cycle ahead of it ends here.
		if i+1 < len(q) && q[i+1] < greatest {
			p[n-1] = q[i+1]
		} else {
			p[n-1] = greatest
		}
	}
	return p, api.OK
}

// cycleFrom answers the cycle of p that n is in, from n on.
func cycleFrom(p []int, n int) []int {
	cycle := []int{n}
	for next := p[n-1]; next != n; next = p[next-1] {
		cycle = append(cycle, next)
	}
	return cycle
}
