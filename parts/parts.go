// Package parts: partitions: see doc/01-parts.md.
package parts

import "ferrers/api"

// Check tells whether p is a partition (P3).
func Check(p []int) api.Errno {
	for i, part := range p {
		if part < 1 || i > 0 && part > p[i-1] {
			return api.ErrArg
		}
	}
	if roomLeft(api.MaxBoxes, p) < 0 {
		return api.ErrLarge
	}
	return api.OK
}

// Conjugate lets rows and columns change places (P3).
func Conjugate(p []int) ([]int, api.Errno) {
	if err := Check(p); err != api.OK {
		return nil, err
	}
	return columns(p), api.OK
}

// Dominates tells whether a is at least b in the dominance order (P3).
func Dominates(a, b []int) (bool, api.Errno) {
	if err := Check(a); err != api.OK {
		return false, err
	}
	if err := Check(b); err != api.OK {
		return false, err
	}
	// Both fit into MaxBoxes by now, so their sizes are the same if their room is.
	if roomLeft(api.MaxBoxes, a) != roomLeft(api.MaxBoxes, b) {
		return false, api.ErrShape
	}
	lead := 0
	for k := range max(len(a), len(b)) {
		lead += partAt(a, k) - partAt(b, k)
		if lead < 0 {
			return false, api.OK
		}
	}
	return true, api.OK
}

// Frobenius tells the arms and legs of the boxes on the diagonal (P3).
func Frobenius(p []int) (arms, legs []int, err api.Errno) {
	if err = Check(p); err != api.OK {
		return nil, nil, err
	}
	heights := columns(p)
	for i := 0; i < len(p) && p[i] > i; i++ {
		arms = append(arms, p[i]-i-1)
		legs = append(legs, heights[i]-i-1)
	}
	return arms, legs, api.OK
}

// FromFrobenius makes the partition with these arms and legs (P3).
func FromFrobenius(arms, legs []int) ([]int, api.Errno) {
	if len(arms) != len(legs) || !falls(arms) || !falls(legs) {
		return nil, api.ErrArg
	}
	// Each box on the diagonal belongs to neither its arm nor its leg.
	if roomLeft(roomLeft(api.MaxBoxes-len(arms), arms), legs) < 0 {
		return nil, api.ErrLarge
	}
	if len(arms) == 0 {
		return nil, api.OK
	}
	p := make([]int, legs[0]+1)
	for i := range arms {
		p[i] += arms[i] + 1
		for row := i + 1; row <= i+legs[i]; row++ {
			p[row]++
		}
	}
	return p, api.OK
}

// roomLeft tells how much of the room is left behind the numbers, none of which is below 0;
// it is below 0 if they do not fit. It takes away rather than adds, so that nothing wraps round.
func roomLeft(room int, numbers []int) int {
	for _, n := range numbers {
		if n > room {
			return -1
		}
		room -= n
	}
	return room
}

// columns tells how many boxes of the partition p lie in each column.
func columns(p []int) []int {
	if len(p) == 0 {
		return nil
	}
	heights := make([]int, p[0])
	for _, part := range p {
		for j := range part {
			heights[j]++
		}
	}
	return heights
}

// partAt answers 0 for parts that are not there.
func partAt(p []int, k int) int {
	if k < len(p) {
		return p[k]
	}
	return 0
}

// falls tells whether no number is below 0, and each is below the one ahead.
func falls(numbers []int) bool {
	for i, n := range numbers {
		if n < 0 || i > 0 && n >= numbers[i-1] {
			return false
		}
	}
	return true
}

// copied answers new memory, so that an answer never shares any with what was handed in.
func copied(p []int) []int {
	q := make([]int, len(p))
	copy(q, p)
	return q
}
