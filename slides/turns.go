package slides

import (
	"ferrers/api"
	"ferrers/fill"
)

// Evacuate takes the first box's letter away again and again, and writes down where boxes went
// away (P19).
func Evacuate(t [][]int) ([][]int, api.Errno) {
	if err := checkStandard(t); err != api.OK {
		return nil, err
	}
	rest, turned := copied(t), copied(t)
	for n := boxesOf(t); n > 0; n-- {
		i, j := moved(rest, 0, 0)
		turned[i][j] = n
		rest = shortened(rest, i)
	}
	return turned, api.OK
}

// Promote takes 1 away by a slide, and n comes in where a box went away (P19).
func Promote(t [][]int) ([][]int, api.Errno) {
	if err := checkStandard(t); err != api.OK {
		return nil, err
	}
	turned := copied(t)
	if n := boxesOf(t); n > 0 {
		i, j := moved(turned, 0, 0)
		turned[i][j] = n + 1
		raise(turned, -1)
	}
	return turned, api.OK
}

// Demote undoes Promote (P19).
func Demote(t [][]int) ([][]int, api.Errno) {
	if err := checkStandard(t); err != api.OK {
		return nil, err
	}
	turned := copied(t)
	if n := boxesOf(t); n > 0 {
		i, j := boxOf(turned, n)
		moveBack(turned, i, j)
		turned[0][0] = 0
		raise(turned, 1)
	}
	return turned, api.OK
}

// checkStandard tells whether t is a standard tableau.
func checkStandard(t [][]int) api.Errno {
	standard, err := fill.IsStandard(t)
	if err != api.OK {
		return err
	}
	if !standard {
		return api.ErrShape
	}
	return api.OK
}

// boxesOf counts the boxes of t.
func boxesOf(t [][]int) int {
	boxes := 0
	for _, row := range t {
		boxes += len(row)
	}
	return boxes
}

// boxOf tells the row and the column of the greatest number n of t, which ends its row.
func boxOf(t [][]int, n int) (int, int) {
	i := 0
	for t[i][len(t[i])-1] != n {
		i++
	}
	return i, len(t[i]) - 1
}

// moveBack undoes a slide that began in the first row and column of t itself and ended in row i
// and column j. Of the letter over a box and the one left of it the greater one came out of the
// box: the lesser one, put back, would have the greater one ahead of it.
func moveBack(t [][]int, i, j int) {
	for i > 0 || j > 0 {
		if j == 0 || i > 0 && t[i-1][j] > t[i][j-1] {
			t[i][j] = t[i-1][j]
			i--
		} else {
			t[i][j] = t[i][j-1]
			j--
		}
	}
}

// raise makes each letter of t itself greater by so much.
func raise(t [][]int, by int) {
	for _, row := range t {
		for j := range row {
			row[j] += by
		}
	}
}
