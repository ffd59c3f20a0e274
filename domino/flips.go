package domino

import "ferrers/api"

// Flips tells the upper left cells of all blocks that may be turned (P36).
func Flips(s string) ([]api.Point, api.Errno) {
	tiling, err := readTiling(s)
	if err != api.OK {
		return nil, err
	}
	var list []api.Point
	for i := range tiling.rows {
		for j := range tiling.columns {
			if tiling.mayTurn(i, j) {
				list = append(list, api.Point{X: j, Y: i})
			}
		}
	}
	return list, api.OK
}

// Flip turns the block whose upper left cell is given (P36).
func Flip(s string, at api.Point) (string, api.Errno) {
	tiling, err := readTiling(s)
	if err != api.OK {
		return "", err
	}
	if !tiling.mayTurn(at.Y, at.X) {
		return "", api.ErrNone
	}
	tiling.cover(at.Y, at.X, tiling.at(at.Y, at.X) == 'l')
	return tiling.text(), api.OK
}

// mayTurn tells whether two dominoes cover the block: where two halves begin, the others follow.
func (t *sheet) mayTurn(i, j int) bool {
	switch t.at(i, j) {
	case 'l':
		return t.at(i+1, j) == 'l'
	case 'u':
		return t.at(i, j+1) == 'u'
	}
	return false
}
