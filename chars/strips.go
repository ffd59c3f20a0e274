package chars

import (
	"slices"

	"ferrers/api"
	"ferrers/hooks"
)

// Strips lists what is left of p without each of its strips of length k (P27).
func Strips(p []int, k int) ([]api.Strip, api.Errno) {
	lengths, err := hooks.Hooks(p)
	if err != api.OK {
		return nil, err
	}
	if k < 1 {
		return nil, api.ErrArg
	}
	var list []api.Strip
	// The lower a strip begins, the more of the first parts are left as they were.
	for i := len(p) - 1; i >= 0; i-- {
		// A strip has the ends of a hook, and its length; the hooks of a row fall, so one at most is this long.
		if j := slices.Index(lengths[i], k); j >= 0 {
			list = append(list, without(p, i, j, k))
		}
	}
	return list, api.OK
}

// without takes out of p the strip from the end of row i to the end of column j, which has k boxes.
func without(p []int, i, j, k int) api.Strip {
	right := p[i] - 1 - j
	height := k - 1 - right
	left := make([]int, len(p))
	copy(left, p)
	// The strip goes down where the next row ends, so one box less than that row has is left above it.
	for row := i; row < i+height; row++ {
		left[row] = p[row+1] - 1
	}
	left[i+height] = j
	if end := slices.Index(left, 0); end >= 0 {
		left = left[:end]
	}
	return api.Strip{Part: left, Height: height}
}
