package cubes

import (
	"strings"

	"ferrers/api"
)

// Paths tells the edge of each level of p (P33).
func Paths(p [][]int, height int) ([]string, api.Errno) {
	if err := Check(p, height); err != api.OK {
		return nil, err
	}
	list := make([]string, height)
	for k := range list {
		list[k] = edge(level(p, k+1), len(p[0]))
	}
	return list, api.OK
}

// level tells at how many places of each row at least k cubes lie.
func level(p [][]int, k int) []int {
	boxes := make([]int, len(p))
	for i, row := range p {
		for _, n := range row {
			if n >= k {
				boxes[i]++
			}
		}
	}
	return boxes
}

// edge walks behind so many boxes of each row, from the last row to the first.
func edge(boxes []int, columns int) string {
	var b strings.Builder
	gone := 0
	for i := len(boxes) - 1; i >= 0; i-- {
		b.WriteString(strings.Repeat("R", boxes[i]-gone))
		b.WriteByte('U')
		gone = boxes[i]
	}
	b.WriteString(strings.Repeat("R", columns-gone))
	return b.String()
}

// FromPaths makes the pile whose levels have these edges (P33).
func FromPaths(l []string) ([][]int, api.Errno) {
	if !areSides(len(l)) {
		return nil, api.ErrArg
	}
	rows, columns := strings.Count(l[0], "U"), strings.Count(l[0], "R")
	if !areSides(rows, columns) {
		return nil, api.ErrArg
	}
	p := empty(rows, columns)
	for ahead, text := range l {
		if !isEdge(text, rows, columns) {
			return nil, api.ErrArg
		}
		if !lay(p, boxesOf(text, rows), ahead) {
			return nil, api.ErrShape
		}
	}
	return p, api.OK
}

// isEdge tells whether the text has so many steps up and to the right, and nothing else.
func isEdge(text string, rows, columns int) bool {
	return len(text) == rows+columns && strings.Count(text, "U") == rows && strings.Count(text, "R") == columns
}

// boxesOf tells how many boxes of each row lie ahead of the edge.
func boxesOf(text string, rows int) []int {
	boxes := make([]int, rows)
	gone, row := 0, rows
	for i := range len(text) {
		if text[i] == 'R' {
			gone++
			continue
		}
		row--
		boxes[row] = gone
	}
	return boxes
}

// lay puts a cube on each of the boxes, and tells whether it lies on a cube of each of the levels ahead.
func lay(p [][]int, boxes []int, ahead int) bool {
	for i, many := range boxes {
		for j := range many {
			if p[i][j] < ahead {
				return false
			}
			p[i][j]++
		}
	}
	return true
}
