package insert

import (
	"slices"

	"ferrers/api"
	"ferrers/perms"
)

// Moves lists the words that are one of Knuth's steps from w (P15).
func Moves(w []int) ([][]int, api.Errno) {
	if err := perms.Letters(w); err != api.OK {
		return nil, err
	}
	// Two neighbours are asked once, whichever side lets them change, so that no word comes twice.
	var list [][]int
	for i := 1; i < len(w); i++ {
		if mayChange(w, i) {
			list = append(list, changed(w, i))
		}
	}
	slices.SortFunc(list, slices.Compare[[]int])
	return list, api.OK
}

// mayChange tells whether the letters i-1 and i of w, counted from 0 on, change places by a step.
func mayChange(w []int, i int) bool {
	low, high := min(w[i-1], w[i]), max(w[i-1], w[i])
	if i >= 2 && low < w[i-2] && w[i-2] <= high {
		return true
	}
	return i+1 < len(w) && low <= w[i+1] && w[i+1] < high
}

// changed is w with the letters i-1 and i in each other's places.
func changed(w []int, i int) []int {
	v := make([]int, len(w))
	copy(v, w)
	v[i-1], v[i] = v[i], v[i-1]
	return v
}
