package insert

import (
	"ferrers/api"
	"ferrers/parts"
	"ferrers/perms"
)

// Rising tells how many letters of w are in k subsequences that never fall, at most (P16).
func Rising(w []int, k int) (int, api.Errno) {
	shape, err := shapeFor(w, k)
	if err != api.OK {
		return 0, err
	}
	return boxesInFirst(shape, k), api.OK
}

// Falling tells how many letters of w are in k subsequences that always fall, at most (P16).
func Falling(w []int, k int) (int, api.Errno) {
	shape, err := shapeFor(w, k)
	if err != api.OK {
		return 0, err
	}
	// A shape is a partition, so there is no error.
	columns, _ := parts.Conjugate(shape)
	return boxesInFirst(columns, k), api.OK
}

// Longest tells the places of a longest subsequence of w that never falls (P16).
func Longest(w []int) ([]int, api.Errno) {
	if err := perms.Letters(w); err != api.OK {
		return nil, err
	}
	lengths := lengthsFrom(w)
	need, least := 0, 1
	for _, length := range lengths {
		need = max(need, length)
	}
	// The first place from which enough letters follow is the least one that can come next.
	var places []int
	for i, letter := range w {
		if letter >= least && lengths[i] == need {
			places = append(places, i+1)
			need--
			least = letter
		}
	}
	return places, api.OK
}

// shapeFor tells the shape of the tableau that Make makes of w, if k is not below 0.
func shapeFor(w []int, k int) ([]int, api.Errno) {
	p, _, err := Make(w)
	if err != api.OK {
		return nil, err
	}
	if k < 0 {
		return nil, api.ErrArg
	}
	shape := make([]int, len(p))
	for i, row := range p {
		shape[i] = len(row)
	}
	return shape, api.OK
}

// boxesInFirst counts the boxes of the first k parts, or of all, if there are fewer.
func boxesInFirst(lengths []int, k int) int {
	boxes := 0
	for _, length := range lengths[:min(k, len(lengths))] {
		boxes += length
	}
	return boxes
}

// lengthsFrom tells for each letter of w how long a subsequence that never falls and begins
// with it can be.
func lengthsFrom(w []int) []int {
	lengths := make([]int, len(w))
	for i := len(w) - 1; i >= 0; i-- {
		lengths[i] = 1
		for j := i + 1; j < len(w); j++ {
			if w[j] >= w[i] {
				lengths[i] = max(lengths[i], lengths[j]+1)
			}
		}
	}
	return lengths
}
