package paths

import (
	"strconv"

	"ferrers/api"
)

const maxPaths = 4

// Determinant tells that of the numbers of paths from each start to each end (P30).
func Determinant(g api.Grid, starts, ends []api.Point) (string, api.Errno) {
	closed, err := checked(g, starts, ends)
	if err != api.OK {
		return "", err
	}
	rows := make([][]int64, len(starts))
	for i, start := range starts {
		rows[i] = make([]int64, len(ends))
		for j, end := range ends {
			rows[i][j] = int64(closed.count(start, end))
		}
	}
	// Four rows of numbers of such small grids stay far below what 64 bits can hold.
	return strconv.FormatInt(determinant(rows), 10), api.OK
}

// determinant is that of rows of equal length, as many as the columns; it goes along the first row (LAPLACE).
func determinant(rows [][]int64) int64 {
	if len(rows) == 0 {
		return 1
	}
	sum, sign := int64(0), int64(1)
	for column, n := range rows[0] {
		sum += sign * n * determinant(without(rows[1:], column))
		sign = -sign
	}
	return sum
}

// without answers the rows without that column.
func without(rows [][]int64, column int) [][]int64 {
	left := make([][]int64, len(rows))
	for i, row := range rows {
		left[i] = append(append([]int64{}, row[:column]...), row[column+1:]...)
	}
	return left
}

// Apart tells how many families go from the starts to the ends that way says (P30).
func Apart(g api.Grid, starts, ends []api.Point, way []int) (int, api.Errno) {
	closed, err := checked(g, starts, ends)
	if err != api.OK {
		return 0, err
	}
	if len(way) != len(starts) {
		return 0, api.ErrShape
	}
	if !isWay(way) {
		return 0, api.ErrArg
	}
	reached := make([]api.Point, len(way))
	for i, end := range way {
		reached[i] = ends[end]
	}
	count := 0
	err = families(closed, starts, reached, func([][]byte) bool {
		count++
		return true
	})
	if err != api.OK {
		return 0, err
	}
	return count, api.OK
}

// isWay tells whether the numbers, at most maxPaths of them, are those from 0 on, each once.
func isWay(way []int) bool {
	var used [maxPaths]bool
	for _, end := range way {
		if end < 0 || end >= len(way) || used[end] {
			return false
		}
		used[end] = true
	}
	return true
}

// First tells the family that comes first, from each start to the end of the same number (P30).
func First(g api.Grid, starts, ends []api.Point) ([]string, api.Errno) {
	closed, err := checked(g, starts, ends)
	if err != api.OK {
		return nil, err
	}
	var first []string
	none := true
	// Steps to the right are looked at first, so what is found first comes first.
	err = families(closed, starts, ends, func(texts [][]byte) bool {
		none = false
		for _, text := range texts {
			first = append(first, string(text))
		}
		return false
	})
	if err != api.OK {
		return nil, err
	}
	if none {
		return nil, api.ErrNone
	}
	return first, api.OK
}

// checked tells what is wrong with a grid, starts and ends together; it marks the points that are barred.
func checked(g api.Grid, starts, ends []api.Point) (marks, api.Errno) {
	closed, err := barred(g)
	switch {
	case err != api.OK:
		return marks{}, err
	case !within(g, starts...) || !within(g, ends...):
		return marks{}, api.ErrArg
	case len(starts) != len(ends):
		return marks{}, api.ErrShape
	case len(starts) > maxPaths:
		return marks{}, api.ErrLarge
	}
	return closed, api.OK
}
