package domino

import "ferrers/api"

// maxOrder is that of the greatest diamond that is a board.
const maxOrder = api.MaxSide / 2

// Aztec tells the diamond of order n (P37).
func Aztec(n int) (string, api.Errno) {
	if n < 1 || n > maxOrder {
		return "", api.ErrArg
	}
	board := diamond(n)
	return board.text(), api.OK
}

// diamond is the board of that order.
func diamond(n int) sheet {
	t := sheet{rows: 2 * n, columns: 2 * n}
	for i := range t.rows {
		m := min(i, 2*n-1-i)
		for j := range t.columns {
			t.cells[i][j] = '.'
			if j >= n-1-m && j <= n+m {
				t.cells[i][j] = '#'
			}
		}
	}
	return t
}

// Needs tells how many blocks are to be covered when the dominoes of s have been shuffled (P37).
func Needs(s string) (int, api.Errno) {
	_, blocks, err := shuffled(s)
	return len(blocks), err
}

// Shuffle tells the tiling of the next diamond that comes of s, with the blocks covered as upright says (P37).
func Shuffle(s string, upright []bool) (string, api.Errno) {
	tiling, blocks, err := shuffled(s)
	if err != api.OK {
		return "", err
	}
	if len(upright) != len(blocks) {
		return "", api.ErrShape
	}
	for k, at := range blocks {
		tiling.cover(at.Y, at.X, upright[k])
	}
	return tiling.text(), api.OK
}

// shuffled reads a tiling of a diamond and lets its dominoes go. It answers the next diamond, and
// the blocks that they leave, which are covered by lying dominoes for the time being.
func shuffled(s string) (sheet, []api.Point, api.Errno) {
	tiling, err := readTiling(s)
	if err != api.OK {
		return sheet{}, nil, err
	}
	n := tiling.rows / 2
	if tiling.board() != diamond(n) {
		return sheet{}, nil, api.ErrShape
	}
	if n == maxOrder {
		return sheet{}, nil, api.ErrLarge
	}
	next := tiling.spread(n)
	return next, next.coverBlocks(), api.OK
}

// spread lays the dominoes of a tiling of the diamond of order n into the next one, each one cell further its way.
// Of the two that would meet neither is laid: if the cell ahead begins a domino of the same kind,
// that one comes the other way, for its row and column together are one more, or one less.
func (t *sheet) spread(n int) sheet {
	next := diamond(n + 1)
	for i := range t.rows {
		for j := range t.columns {
			step := 1
			if (i+j)%2 == (n-1)%2 {
				step = -1
			}
			switch t.at(i, j) {
			case 'l':
				if t.at(i+step, j) != 'l' {
					next.lie(i+1+step, j+1)
				}
			case 'u':
				if t.at(i, j+step) != 'u' {
					next.stand(i+1, j+1+step)
				}
			}
		}
	}
	return next
}

// coverBlocks covers what is not covered, block by block, and tells their upper left cells.
func (t *sheet) coverBlocks() []api.Point {
	var blocks []api.Point
	for i := range t.rows {
		for j := range t.columns {
			if t.cells[i][j] == '#' {
				blocks = append(blocks, api.Point{X: j, Y: i})
				t.cover(i, j, false)
			}
		}
	}
	return blocks
}
