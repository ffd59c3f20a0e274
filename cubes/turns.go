package cubes

import "ferrers/api"

// Turned lets the columns become the rows, the levels the columns, and the rows the levels (P34).
func Turned(p [][]int, height int) ([][]int, api.Errno) {
	if err := Check(p, height); err != api.OK {
		return nil, err
	}
	q := empty(len(p[0]), height)
	for _, row := range p {
		for j, n := range row {
			for z := range n {
				q[j][z]++
			}
		}
	}
	return q, api.OK
}

// Mirrored lets rows and columns change places (P34).
func Mirrored(p [][]int, height int) ([][]int, api.Errno) {
	if err := Check(p, height); err != api.OK {
		return nil, err
	}
	q := empty(len(p[0]), len(p))
	for i, row := range p {
		for j, n := range row {
			q[j][i] = n
		}
	}
	return q, api.OK
}

// Rest makes a pile of the room that p leaves, seen from the far corner (P34).
func Rest(p [][]int, height int) ([][]int, api.Errno) {
	if err := Check(p, height); err != api.OK {
		return nil, err
	}
	q := empty(len(p), len(p[0]))
	for i, row := range p {
		for j, n := range row {
			q[len(p)-1-i][len(row)-1-j] = height - n
		}
	}
	return q, api.OK
}
