package hooks

import (
	"ferrers/api"
	"ferrers/parts"
)

// Below lists the partitions that have one box of p less (P21).
func Below(p []int) ([][]int, api.Errno) {
	if err := parts.Check(p); err != api.OK {
		return nil, err
	}
	var list [][]int
	for i, part := range p {
		if i+1 < len(p) && p[i+1] == part {
			continue
		}
		if part == 1 {
			// It is the last row, and nothing is left of it.
			list = append(list, copied(p[:i]))
			continue
		}
		q := copied(p)
		q[i]--
		list = append(list, q)
	}
	return list, api.OK
}

// Above lists the partitions that have one box more than p (P21).
func Above(p []int) ([][]int, api.Errno) {
	if err := parts.Check(p); err != api.OK {
		return nil, err
	}
	if size(p) == api.MaxBoxes {
		return nil, api.ErrLarge
	}
	var list [][]int
	for i, part := range p {
		if i > 0 && p[i-1] == part {
			continue
		}
		q := copied(p)
		q[i]++
		list = append(list, q)
	}
	return append(list, append(copied(p), 1)), api.OK
}

// size tells how many boxes the partition p has.
func size(p []int) int {
	boxes := 0
	for _, part := range p {
		boxes += part
	}
	return boxes
}

// copied answers new memory, so that an answer never shares any with what was handed in.
func copied(p []int) []int {
	q := make([]int, len(p))
	copy(q, p)
	return q
}
