package signs

import "ferrers/api"

// Sides of a place, in the order in which the outer lines are numbered.
const (
	left = iota
	lower
	right
	upper
	sides
)

// spot is a line, as it is seen from a place: the one at that side of it.
type spot struct{ row, column, side int }

// Links tells for each end to which one the drawn lines lead from it (P40).
func Links(m [][]int) ([]int, api.Errno) {
	if err := Check(m); err != api.OK {
		return nil, err
	}
	drawn := linesOf(m)
	links := make([]int, 2*drawn.n)
	for e := range links {
		links[e] = drawn.follow(drawn.outer(2*e)) / 2
	}
	return links, api.OK
}

// follow goes on from a drawn outer line till it comes to another one, and tells its number.
// Two lines are drawn at each place, so there is one way on, and it never leads back.
func (l *lines) follow(at spot) int {
	for {
		at.side = l.wayOn(at)
		next := at.fromBeyond()
		if !l.has(next) {
			return l.number(at)
		}
		at = next
	}
}

// wayOn tells the side of the other drawn line of the place.
func (l *lines) wayOn(at spot) int {
	for turn := 1; turn < sides; turn++ {
		side := (at.side + turn) % sides
		if l.isDrawn(spot{at.row, at.column, side}) {
			return side
		}
	}
	return at.side
}

func (l *lines) isDrawn(at spot) bool {
	switch at.side {
	case left:
		return l.across[at.row][at.column]
	case lower:
		return l.down[at.row+1][at.column]
	case right:
		return l.across[at.row][at.column+1]
	}
	return l.down[at.row][at.column]
}

// fromBeyond is the same line, as it is seen from the place at its other side.
func (at spot) fromBeyond() spot {
	switch at.side {
	case left:
		return spot{at.row, at.column - 1, right}
	case lower:
		return spot{at.row + 1, at.column, upper}
	case right:
		return spot{at.row, at.column + 1, left}
	}
	return spot{at.row - 1, at.column, lower}
}

// has tells whether there is such a place.
func (l *lines) has(at spot) bool {
	return min(at.row, at.column) >= 0 && max(at.row, at.column) < l.n
}

// outer tells where the outer line with that number is.
func (l *lines) outer(number int) spot {
	last, k := l.n-1, number%l.n
	switch side := number / l.n; side {
	case left:
		return spot{k, 0, side}
	case lower:
		return spot{last, k, side}
	case right:
		return spot{last - k, last, side}
	default:
		return spot{0, last - k, side}
	}
}

// number tells the number of an outer line.
func (l *lines) number(at spot) int {
	last, first := l.n-1, at.side*l.n
	switch at.side {
	case left:
		return first + at.row
	case lower:
		return first + at.column
	case right:
		return first + last - at.row
	}
	return first + last - at.column
}
