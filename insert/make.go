package insert

import (
	"cmp"
	"slices"

	"ferrers/api"
	"ferrers/fill"
	"ferrers/perms"
)

// Make puts the letters of w into a tableau, and tells in another one when each box came (P14).
func Make(w []int) (p, q [][]int, err api.Errno) {
	if err = perms.Letters(w); err != api.OK {
		return nil, nil, err
	}
	for i, x := range w {
		p, q = putPair(p, q, api.Pair{A: i + 1, B: x})
	}
	return p, q, api.OK
}

// Back makes the word of which Make makes p and q (P14).
func Back(p, q [][]int) ([]int, api.Errno) {
	if err := checkBoth(p, q); err != api.OK {
		return nil, err
	}
	// q is a tableau by now, so there is no error.
	if standard, _ := fill.IsStandard(q); !standard {
		return nil, api.ErrShape
	}
	pairs := takenPairs(p, q)
	w := make([]int, len(pairs))
	for i, pair := range pairs {
		w[i] = pair.B
	}
	return w, api.OK
}

// MakePairs puts the B's into a tableau, and into another one each pair's A where its box came (P14).
func MakePairs(l []api.Pair) (p, q [][]int, err api.Errno) {
	if len(l) > api.MaxBoxes {
		return nil, nil, api.ErrLarge
	}
	for _, pair := range l {
		if !isLetter(pair.A) || !isLetter(pair.B) {
			return nil, nil, api.ErrArg
		}
	}
	if !slices.IsSortedFunc(l, byLetters) {
		return nil, nil, api.ErrArg
	}
	for _, pair := range l {
		p, q = putPair(p, q, pair)
	}
	return p, q, api.OK
}

// BackPairs makes the pairs of which MakePairs makes p and q (P14).
func BackPairs(p, q [][]int) ([]api.Pair, api.Errno) {
	if err := checkBoth(p, q); err != api.OK {
		return nil, err
	}
	return takenPairs(p, q), api.OK
}

// checkBoth tells whether p and q are tableaux of one shape.
func checkBoth(p, q [][]int) api.Errno {
	shape, err := fill.Shape(p)
	if err != api.OK {
		return err
	}
	other, err := fill.Shape(q)
	if err != api.OK {
		return err
	}
	if !slices.Equal(shape, other) {
		return api.ErrShape
	}
	return api.OK
}

// byLetters holds two pairs against each other, by A, then by B.
func byLetters(a, b api.Pair) int {
	return cmp.Or(cmp.Compare(a.A, b.A), cmp.Compare(a.B, b.B))
}

// putPair puts the pair's B into p itself, and its A into q itself where the box came.
func putPair(p, q [][]int, pair api.Pair) (_, _ [][]int) {
	p, row := putInRows(p, pair.B)
	return p, lengthened(q, row, pair.A)
}

// takenPairs takes all pairs out of p and q, the one that came last first, and lists them in
// the order in which they came.
func takenPairs(p, q [][]int) []api.Pair {
	p, q = copied(p), copied(q)
	pairs := make([]api.Pair, boxesOf(p))
	for n := len(pairs) - 1; n >= 0; n-- {
		row := rowOfGreatest(q)
		pairs[n].A, q = taken(q, row)
		pairs[n].B, p = takenFromRows(p, row)
	}
	return pairs
}

// rowOfGreatest tells at the end of which row the greatest letter of t is. Of several it is the
// uppermost: boxes that come with letters that never fall come ever farther to the right.
func rowOfGreatest(t [][]int) int {
	greatest, at := 0, 0
	for i, row := range t {
		if last := row[len(row)-1]; last > greatest {
			greatest, at = last, i
		}
	}
	return at
}

// takenFromRows undoes putInRows, by which a box came at the end of row i of t, and tells what
// was put in.
func takenFromRows(t [][]int, i int) (int, [][]int) {
	x, t := taken(t, i)
	for i--; i >= 0; i-- {
		row := t[i]
		// The letter that took x's place in this row is the last one that is less than x.
		j := len(row) - 1
		for row[j] >= x {
			j--
		}
		row[j], x = x, row[j]
	}
	return x, t
}

// taken takes the last letter of row i out of t itself, and the row with it if no other is left.
func taken(t [][]int, i int) (int, [][]int) {
	end := len(t[i]) - 1
	x := t[i][end]
	t[i] = t[i][:end]
	if end == 0 {
		t = t[:i]
	}
	return x, t
}
