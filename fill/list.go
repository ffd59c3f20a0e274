package fill

import (
	"slices"

	"ferrers/api"
	"ferrers/parts"
)

// All lists the standard tableaux of the shape p (P12).
func All(p []int) ([][][]int, api.Errno) {
	if err := parts.Check(p); err != api.OK {
		return nil, err
	}
	list := standardOf(p)
	if len(list) > api.MaxList {
		return nil, api.ErrLarge
	}
	slices.SortFunc(list, byLetters)
	return list, api.OK
}

// AllOf lists the tableaux of the shape p whose letters are at most that (P12).
func AllOf(p []int, most int) ([][][]int, api.Errno) {
	if err := parts.Check(p); err != api.OK {
		return nil, err
	}
	if most < 0 || most > api.MaxLetter {
		return nil, api.ErrArg
	}
	list := tableauxOf(p, most)
	if len(list) > api.MaxList {
		return nil, api.ErrLarge
	}
	return list, api.OK
}

// standardOf lists the standard tableaux of the shape p, in no order, or one more than may be
// listed. The letters are put in from 1 on, since then each beginning leads to a tableau,
// and no time is lost with others.
func standardOf(p []int) [][][]int {
	var list [][][]int
	soFar := make([][]int, len(p))
	var put func(letter int)
	put = func(letter int) {
		if len(list) > api.MaxList {
			return
		}
		full := true
		for i, row := range soFar {
			n := len(row)
			if n == p[i] {
				continue
			}
			full = false
			if i == 0 || n < len(soFar[i-1]) {
				soFar[i] = append(row, letter)
				put(letter + 1)
				soFar[i] = row
			}
		}
		if full {
			list = append(list, copied(soFar))
		}
	}
	put(1)
	return list
}

// tableauxOf lists the tableaux of the shape p whose letters are at most that, in their order,
// or one more than may be listed.
func tableauxOf(p []int, most int) [][][]int {
	// p is a partition by now, so there is no error.
	heights, _ := parts.Conjugate(p)
	var list [][][]int
	soFar := make([][]int, len(p))
	var put func(i, j int)
	put = func(i, j int) {
		if len(list) > api.MaxList {
			return
		}
		if i == len(p) {
			list = append(list, copied(soFar))
			return
		}
		if j == p[i] {
			put(i+1, 0)
			return
		}
		// Letters that leave too few for the boxes below lead nowhere; all others lead to a tableau.
		greatest := most - (heights[j] - 1 - i)
		for letter := leastAt(soFar, i, j); letter <= greatest; letter++ {
			soFar[i] = append(soFar[i], letter)
			put(i, j+1)
			soFar[i] = soFar[i][:j]
		}
	}
	put(0, 0)
	return list
}

// leastAt tells the least letter that may stand in row i and column j behind what is there so far.
func leastAt(soFar [][]int, i, j int) int {
	least := 1
	if j > 0 {
		least = soFar[i][j-1]
	}
	if i > 0 {
		least = max(least, soFar[i-1][j]+1)
	}
	return least
}

// byLetters holds two tableaux of one shape against each other, row by row.
func byLetters(a, b [][]int) int {
	return slices.CompareFunc(a, b, slices.Compare[[]int])
}
