package cubes

import (
	"strconv"

	"ferrers/api"
	"ferrers/wide"
)

const (
	maxCountSide = 20
	maxSeries    = 60
)

// Count tells how many piles there are in such a room (P32).
func Count(rows, columns, height int) (string, api.Errno) {
	if min(rows, columns, height) < 0 || max(rows, columns, height) > maxCountSide {
		return "", api.ErrArg
	}
	var over, under []int
	for i := 1; i <= rows; i++ {
		for j := 1; j <= columns; j++ {
			over = append(over, i+j+height-1)
			under = append(under, i+j-1)
		}
	}
	return wide.Quotient(over, under), api.OK
}

// Series tells for each k up to n how many piles of k cubes there are in a room without far walls (P32).
func Series(n int) ([]string, api.Errno) {
	if n < 0 || n > maxSeries {
		return nil, api.ErrArg
	}
	list := make([]string, n+1)
	for k, count := range pilesBySize(n) {
		list[k] = strconv.FormatUint(count, 10)
	}
	return list, api.OK
}

// pilesBySize counts the piles of 0 to n cubes. MacMahon: they are as many as the partitions
// whose parts of each size come in as many kinds as the size says. Those of 60 fit into 64 bits by far.
func pilesBySize(n int) []uint64 {
	counts := make([]uint64, n+1)
	counts[0] = 1
	for size := 1; size <= n; size++ {
		for range size {
			for k := size; k <= n; k++ {
				counts[k] += counts[k-size]
			}
		}
	}
	return counts
}

// All lists the piles in such a room (P32).
func All(rows, columns, height int) ([][][]int, api.Errno) {
	if !areSides(rows, columns, height) {
		return nil, api.ErrArg
	}
	list := pilesIn(rows, columns, height)
	if len(list) > api.MaxList {
		return nil, api.ErrLarge
	}
	return list, api.OK
}

// pilesIn lists the piles in such a room, in their order, or one more than may be listed.
// Noughts alone make a pile of each beginning, so no time is lost with those that lead nowhere.
func pilesIn(rows, columns, height int) [][][]int {
	var list [][][]int
	soFar := empty(rows, columns)
	var put func(place int)
	put = func(place int) {
		if len(list) > api.MaxList {
			return
		}
		if place == rows*columns {
			list = append(list, copied(soFar))
			return
		}
		i, j := place/columns, place%columns
		for n := range mostAt(soFar, i, j, height) + 1 {
			soFar[i][j] = n
			put(place + 1)
		}
	}
	put(0)
	return list
}

// copied answers the pile in new memory.
func copied(p [][]int) [][]int {
	q := empty(len(p), len(p[0]))
	for i, row := range p {
		copy(q[i], row)
	}
	return q
}
