package signs

import "ferrers/api"

// Corner tells what the first rows of m come to in their first columns (P39).
func Corner(m [][]int) ([][]int, api.Errno) {
	if err := Check(m); err != api.OK {
		return nil, err
	}
	return corner(m), api.OK
}

// FromCorner tells the matrix of which Corner makes c (P39).
func FromCorner(c [][]int) ([][]int, api.Errno) {
	if len(c) < 2 || len(c) > maxRows+1 || !areOfLength(c, len(c)) {
		return nil, api.ErrArg
	}
	m := withCorner(c)
	if Check(m) != api.OK || !sameRows(corner(m), c) {
		return nil, api.ErrArg
	}
	return m, api.OK
}

// Below tells whether a is at most b in the lattice of matrices (P39).
func Below(a, b [][]int) (bool, api.Errno) {
	if err := checkTwo(a, b); err != api.OK {
		return false, err
	}
	c, other := corner(a), corner(b)
	for i, row := range c {
		for j, sum := range row {
			if sum < other[i][j] {
				return false, api.OK
			}
		}
	}
	return true, api.OK
}

// Meet tells the matrix whose Corner is everywhere the greater one of a's and b's (P39).
func Meet(a, b [][]int) ([][]int, api.Errno) {
	if err := checkTwo(a, b); err != api.OK {
		return nil, err
	}
	return combined(a, b, greater), api.OK
}

// Join tells the matrix whose Corner is everywhere the lesser one of a's and b's (P39).
func Join(a, b [][]int) ([][]int, api.Errno) {
	if err := checkTwo(a, b); err != api.OK {
		return nil, err
	}
	return combined(a, b, lesser), api.OK
}

// corner adds up the matrix, from its first row and column on.
func corner(m [][]int) [][]int {
	c := noughts(len(m) + 1)
	for i, row := range m {
		for j, sign := range row {
			c[i+1][j+1] = c[i][j+1] + c[i+1][j] - c[i][j] + sign
		}
	}
	return c
}

// withCorner tells what stands at each place, if c is what the places come to.
func withCorner(c [][]int) [][]int {
	m := noughts(len(c) - 1)
	for i, row := range m {
		for j := range row {
			row[j] = c[i+1][j+1] - c[i][j+1] - c[i+1][j] + c[i][j]
		}
	}
	return m
}

// combined tells the matrix whose Corner is everywhere the chosen one of a's and b's.
func combined(a, b [][]int, choose func(x, y int) int) [][]int {
	c, other := corner(a), corner(b)
	for i, row := range c {
		for j := range row {
			row[j] = choose(row[j], other[i][j])
		}
	}
	return withCorner(c)
}

func greater(x, y int) int { return max(x, y) }

func lesser(x, y int) int { return min(x, y) }
