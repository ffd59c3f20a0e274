package signs

import "ferrers/api"

// Triangle tells for each row in which columns the rows up to it come to 1 (P39).
func Triangle(m [][]int) ([][]int, api.Errno) {
	if err := Check(m); err != api.OK {
		return nil, err
	}
	return triangle(m), api.OK
}

// FromTriangle tells the matrix of which Triangle makes t (P39).
func FromTriangle(t [][]int) ([][]int, api.Errno) {
	if !isTriangular(t) {
		return nil, api.ErrArg
	}
	m := withTriangle(t)
	if Check(m) != api.OK || !sameRows(triangle(m), t) {
		return nil, api.ErrArg
	}
	return m, api.OK
}

// isTriangular tells whether t has the form of a triangle, and numbers of columns alone.
func isTriangular(t [][]int) bool {
	if len(t) < 1 || len(t) > maxRows {
		return false
	}
	for i, row := range t {
		if len(row) != i+1 {
			return false
		}
		for _, number := range row {
			if number < 1 || number > len(t) {
				return false
			}
		}
	}
	return true
}

// triangle adds up the columns of a matrix, row by row.
func triangle(m [][]int) [][]int {
	t := make([][]int, len(m))
	sums := make([]int, len(m))
	for i, row := range m {
		for j, sign := range row {
			sums[j] += sign
			if sums[j] == 1 {
				t[i] = append(t[i], j+1)
			}
		}
	}
	return t
}

// withTriangle tells what stands at each place, if the columns come to 1 where t says: 1 where a
// number is new in its row, -1 where one of the row ahead is no longer there.
func withTriangle(t [][]int) [][]int {
	m := noughts(len(t))
	for i, row := range t {
		for _, number := range row {
			m[i][number-1]++
			if i+1 < len(t) {
				m[i+1][number-1]--
			}
		}
	}
	return m
}
