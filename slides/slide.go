package slides

import (
	"slices"

	"ferrers/api"
	"ferrers/fill"
)

// Slide lets the last hole of a row go its way, and tells in which row a box went away (P18).
func Slide(s [][]int, row int) ([][]int, int, api.Errno) {
	if err := Check(s); err != api.OK {
		return nil, 0, err
	}
	if row < 0 || row >= len(s) || !endsInCorner(s, row) {
		return nil, 0, api.ErrNone
	}
	less, gone := slid(copied(s), row)
	return less, gone, api.OK
}

// Rectify slides until there is no hole any more (P18).
func Rectify(s [][]int) ([][]int, api.Errno) {
	if err := Check(s); err != api.OK {
		return nil, err
	}
	// Of the holes row by row the last one has no other below it, so it is a corner.
	var rows []int
	for i, holes := range shapeOfHoles(s) {
		rows = append(rows, slices.Repeat([]int{i}, holes)...)
	}
	return rectified(s, rows), api.OK
}

// RectifyBy slides likewise, by the corners where order has its greatest number, the next one,
// and so on (P18).
func RectifyBy(s, order [][]int) ([][]int, api.Errno) {
	if err := Check(s); err != api.OK {
		return nil, err
	}
	if err := checkStandard(order); err != api.OK {
		return nil, err
	}
	// order is a tableau by now, so there is no error.
	if shape, _ := fill.Shape(order); !slices.Equal(shape, shapeOfHoles(s)) {
		return nil, api.ErrShape
	}
	return rectified(s, rowsOfNumbers(order)), api.OK
}

// endsInCorner tells whether the row has holes, the last of which has no other below it.
func endsInCorner(s [][]int, row int) bool {
	below := 0
	if row+1 < len(s) {
		below = holesOf(s[row+1])
	}
	return holesOf(s[row]) > below
}

// shapeOfHoles is the partition of how many holes the rows have, those without any left out.
func shapeOfHoles(s [][]int) []int {
	var shape []int
	for _, row := range s {
		if holes := holesOf(row); holes > 0 {
			shape = append(shape, holes)
		}
	}
	return shape
}

// rowsOfNumbers tells in which row of the standard tableau t each of the numbers from 1 on stands.
func rowsOfNumbers(t [][]int) []int {
	rows := make([]int, boxesOf(t))
	for i, row := range t {
		for _, number := range row {
			rows[number-1] = i
		}
	}
	return rows
}

// rectified slides from the last hole of each of these rows, the last one first.
func rectified(s [][]int, rows []int) [][]int {
	t := copied(s)
	for k := len(rows) - 1; k >= 0; k-- {
		t, _ = slid(t, rows[k])
	}
	return t
}

// slid lets the last hole of the row go its way in s itself, takes its box away, and tells in
// which row that was.
func slid(s [][]int, row int) ([][]int, int) {
	i, _ := moved(s, row, holesOf(s[row])-1)
	return shortened(s, i), i
}

// moved lets the hole in row i and column j go its way in s itself, and tells the row and the
// column in which it ends. What stands in that box then means nothing any more.
func moved(s [][]int, i, j int) (int, int) {
	for {
		right, below := letterAt(s, i, j+1), letterAt(s, i+1, j)
		switch {
		case below != hole && (right == hole || below <= right):
			s[i][j] = below
			i++
		case right != hole:
			s[i][j] = right
			j++
		default:
			return i, j
		}
	}
}

// letterAt answers a hole where there is no box.
func letterAt(s [][]int, i, j int) int {
	if i < len(s) && j < len(s[i]) {
		return s[i][j]
	}
	return hole
}

// shortened takes the last box of row i out of s itself, and the row with it if no other is left.
// A row of one box under which there is none is the last one.
func shortened(s [][]int, i int) [][]int {
	s[i] = s[i][:len(s[i])-1]
	if len(s[i]) == 0 {
		return s[:i]
	}
	return s
}

// copied answers new memory, so that what was handed in stays as it is.
func copied(s [][]int) [][]int {
	c := make([][]int, len(s))
	for i, row := range s {
		c[i] = append(c[i], row...)
	}
	return c
}
