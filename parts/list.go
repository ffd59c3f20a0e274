package parts

import (
	"strconv"

	"ferrers/api"
)

// Above maxCounted the counts would soon no longer fit into 64 bits.
const (
	maxCounted = 400
	maxListed  = 20
)

// Count tells how many partitions of size n there are (P5).
func Count(n int) (string, api.Errno) {
	if n < 0 || n > maxCounted {
		return "", api.ErrArg
	}
	ways := make([]uint64, n+1)
	ways[0] = 1
	for part := 1; part <= n; part++ {
		for size := part; size <= n; size++ {
			ways[size] += ways[size-part]
		}
	}
	return strconv.FormatUint(ways[n], 10), api.OK
}

// All lists the partitions of size n, those with greater parts first (P5).
func All(n int) ([][]int, api.Errno) {
	if n < 0 || n > maxListed {
		return nil, api.ErrArg
	}
	var list [][]int
	var soFar []int
	var extend func(left, most int)
	extend = func(left, most int) {
		if left == 0 {
			list = append(list, copied(soFar))
			return
		}
		for part := min(left, most); part > 0; part-- {
			soFar = append(soFar, part)
			extend(left-part, part)
			soFar = soFar[:len(soFar)-1]
		}
	}
	extend(n, n)
	return list, api.OK
}
