package domino

import (
	"math/bits"

	"ferrers/api"
)

// cells is a set of cells, one bit each, row by row, with room for the greatest board.
type cells uint64

const allCells = ^cells(0)

// ways keeps, by which cells are covered, in how many ways the others can be. Dominoes are always laid
// on the first cell that is free, so few sets are ever met, and most of them again and again.
type ways map[cells]int64

// Count tells how many tilings have the board s (P35).
func Count(s string) (int64, api.Errno) {
	board, err := readBoard(s)
	if err != api.OK {
		return 0, err
	}
	return ways{}.left(board.outside()), api.OK
}

// First tells the first tiling that has the board s (P35).
func First(s string) (string, api.Errno) {
	board, err := readBoard(s)
	if err != api.OK {
		return "", err
	}
	known := ways{}
	covered := board.outside()
	if known.left(covered) == 0 {
		return "", api.ErrNone
	}
	for covered != allCells {
		i, j := covered.firstFree()
		after, fits := covered.lie()
		if fits && known.left(after) > 0 {
			board.lie(i, j)
		} else {
			after, _ = covered.stand()
			board.stand(i, j)
		}
		covered = after
	}
	return board.text(), api.OK
}

// outside is what no domino may lie on: all but the cells of the board.
func (t *sheet) outside() cells {
	covered := allCells
	for i := range t.rows {
		for j := range t.columns {
			if t.cells[i][j] == '#' {
				covered &^= cellAt(i, j)
			}
		}
	}
	return covered
}

// left tells in how many ways the cells that are not covered can be.
func (w ways) left(covered cells) int64 {
	if covered == allCells {
		return 1
	}
	if n, met := w[covered]; met {
		return n
	}
	n := int64(0)
	if after, fits := covered.lie(); fits {
		n += w.left(after)
	}
	if after, fits := covered.stand(); fits {
		n += w.left(after)
	}
	w[covered] = n
	return n
}

// firstFree tells the row and the column of the first cell that is not covered; there must be one.
func (c cells) firstFree() (i, j int) {
	k := bits.TrailingZeros64(^uint64(c))
	return k / api.MaxSide, k % api.MaxSide
}

// lie covers the first free cell and the one right of it, and tells whether that one is free, too.
func (c cells) lie() (after cells, fits bool) {
	i, j := c.firstFree()
	return c.lay(cellAt(i, j), cellAt(i, j+1))
}

// stand covers the first free cell and the one below it, and tells whether that one is free, too.
func (c cells) stand() (after cells, fits bool) {
	i, j := c.firstFree()
	return c.lay(cellAt(i, j), cellAt(i+1, j))
}

// lay covers a free cell and another one, which may be none at all.
func (c cells) lay(free, other cells) (after cells, fits bool) {
	return c | free | other, other != 0 && c&other == 0
}

// cellAt is the set of one cell, and that of none beyond the last row or column.
func cellAt(i, j int) cells {
	if i >= api.MaxSide || j >= api.MaxSide {
		return 0
	}
	return 1 << (i*api.MaxSide + j)
}
