package domino

import (
	"strings"

	"ferrers/api"
)

// maxText is how long a text of rows can be, with what stands between them.
const maxText = api.MaxSide*(api.MaxSide+1) - 1

// sheet is the text of a board or a tiling, by rows and columns. What lies beyond these is 0,
// so that two sheets are the same, if their texts are.
type sheet struct {
	rows, columns int
	cells         [api.MaxSide][api.MaxSide]byte
}

// read makes a sheet of a text of these letters; ErrArg, if its rows are not as they should be.
func read(s, letters string) (sheet, api.Errno) {
	// A text that is far too long is not even split.
	if len(s) > maxText {
		return sheet{}, api.ErrArg
	}
	lines := strings.Split(s, "/")
	t := sheet{rows: len(lines), columns: len(lines[0])}
	if !isSide(t.rows) || !isSide(t.columns) {
		return sheet{}, api.ErrArg
	}
	for i, line := range lines {
		if len(line) != t.columns || !isOf(line, letters) {
			return sheet{}, api.ErrArg
		}
		copy(t.cells[i][:], line)
	}
	return t, api.OK
}

// isOf tells whether each byte of the line is one of the letters.
func isOf(line, letters string) bool {
	for k := range len(line) {
		if strings.IndexByte(letters, line[k]) < 0 {
			return false
		}
	}
	return true
}

// isSide tells whether there may be so many rows, or columns.
func isSide(n int) bool {
	return n >= 1 && n <= api.MaxSide
}

// text is the one of which read makes the sheet.
func (t *sheet) text() string {
	var b strings.Builder
	for i := range t.rows {
		if i > 0 {
			b.WriteByte('/')
		}
		b.Write(t.cells[i][:t.columns])
	}
	return b.String()
}

// at tells what is in row i and column j. Round the sheet there is nothing, as where no cell is.
func (t *sheet) at(i, j int) byte {
	if i < 0 || i >= t.rows || j < 0 || j >= t.columns {
		return '.'
	}
	return t.cells[i][j]
}

// lie lays a domino with its left half in row i and column j.
func (t *sheet) lie(i, j int) {
	t.cells[i][j], t.cells[i][j+1] = 'l', 'r'
}

// stand lays a domino with its upper half in row i and column j.
func (t *sheet) stand(i, j int) {
	t.cells[i][j], t.cells[i+1][j] = 'u', 'd'
}

// cover lays two dominoes on the block whose upper left cell is in row i and column j.
func (t *sheet) cover(i, j int, upright bool) {
	if upright {
		t.stand(i, j)
		t.stand(i, j+1)
		return
	}
	t.lie(i, j)
	t.lie(i+1, j)
}
