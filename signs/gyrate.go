package signs

import "ferrers/api"

// Gyrate turns the faces of m, which turns its Links one back round (P41).
func Gyrate(m [][]int) ([][]int, api.Errno) {
	if err := Check(m); err != api.OK {
		return nil, err
	}
	drawn := linesOf(m)
	drawn.turnFaces(true)
	drawn.turnFaces(false)
	return drawn.matrix(), api.OK
}

// turnFaces turns each face whose first row and column together are even, or odd.
// No two of these have a line together, so their order makes no difference.
func (l *lines) turnFaces(even bool) {
	for i := range l.n - 1 {
		for j := range l.n - 1 {
			if isEven(i+j) == even {
				l.turnFace(i, j)
			}
		}
	}
}

// turnFace draws the two lines of a face that are not drawn instead of the two that are, if they
// lie across from one another.
func (l *lines) turnFace(i, j int) {
	above, below := &l.across[i][j+1], &l.across[i+1][j+1]
	ahead, behind := &l.down[i+1][j], &l.down[i+1][j+1]
	if *above != *below || *ahead != *behind || *above == *ahead {
		return
	}
	*above, *below, *ahead, *behind = *ahead, *behind, *above, *below
}
