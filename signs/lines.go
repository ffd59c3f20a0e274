package signs

// lines tells which lines of a matrix of n rows are drawn: across holds those in a row, each at the
// place right of it, down those in a column, each at the place below it; the last outer ones
// stand where such a place would be.
type lines struct {
	n            int
	across, down [maxRows + 1][maxRows + 1]bool
}

// linesOf draws the lines of a matrix (P40). A line is looked at from the place right of it, or
// below it, also where there is none: it would say the same as the place at the other side.
func linesOf(m [][]int) lines {
	l := lines{n: len(m)}
	for i := range l.n {
		h, v := 0, 0
		for j := range l.n + 1 {
			l.across[i][j] = (h == 0) == isEven(i+j)
			l.down[j][i] = (v == 1) == isEven(i+j)
			if j < l.n {
				h += m[i][j]
				v += m[j][i]
			}
		}
	}
	return l
}

// matrix tells of which matrix the lines are drawn.
func (l *lines) matrix() [][]int {
	m := noughts(l.n)
	for i, row := range m {
		for j := range row {
			row[j] = l.sumAhead(i, j+1) - l.sumAhead(i, j)
		}
	}
	return m
}

// sumAhead tells what row i comes to ahead of column j.
func (l *lines) sumAhead(i, j int) int {
	if l.across[i][j] == isEven(i+j) {
		return 0
	}
	return 1
}

func isEven(n int) bool { return n%2 == 0 }
