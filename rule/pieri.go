package rule

import (
	"ferrers/api"
	"ferrers/parts"
)

// Row lists the partitions of k boxes more than p, no two of them in one column (P23).
func Row(p []int, k int) ([][]int, api.Errno) {
	return above(p, k, func(c []int) bool {
		for i := range c {
			// What is new in this row begins behind the old part, and what is new
			// in the next one may not reach under it.
			if partAt(c, i+1) > partAt(p, i) {
				return false
			}
		}
		return true
	})
}

// Column lists the partitions of k boxes more than p, no two of them in one row (P23).
func Column(p []int, k int) ([][]int, api.Errno) {
	return above(p, k, func(c []int) bool {
		for i, part := range c {
			if part > partAt(p, i)+1 {
				return false
			}
		}
		return true
	})
}

// above lists the partitions that have all boxes of p and k more, if they are wanted.
func above(p []int, k int, wanted func(c []int) bool) ([][]int, api.Errno) {
	if err := check(p); err != api.OK {
		return nil, err
	}
	if k < 0 {
		return nil, api.ErrArg
	}
	if k > maxBoxes-size(p) {
		return nil, api.ErrLarge
	}
	// So few boxes are always listed.
	shapes, _ := parts.All(size(p) + k)
	var list [][]int
	for _, c := range shapes {
		if contains(c, p) && wanted(c) {
			list = append(list, c)
		}
	}
	return list, api.OK
}
