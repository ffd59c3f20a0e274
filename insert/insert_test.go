package insert

import (
	"math"
	"math/rand"
	"slices"
	"testing"

	"ferrers/api"
	"ferrers/fill"
)

// sameRows: are rows the same?
func sameRows(a, b [][]int) bool {
	return slices.EqualFunc(a, b, slices.Equal)
}

// brief leaves most of great rows out, so that they can be told.
func brief(t [][]int) [][]int {
	var rows [][]int
	for _, row := range t[:min(len(t), 42)] {
		rows = append(rows, row[:min(len(row), 42)])
	}
	return rows
}

// rowFrom answers so many letters, from the first one up by one each.
func rowFrom(first, n int) []int {
	row := make([]int, n)
	for i := range row {
		row[i] = first + i
	}
	return row
}

// columnFrom answers the column of these letters.
func columnFrom(first, n int) [][]int {
	t := make([][]int, n)
	for i := range t {
		t[i] = []int{first + i}
	}
	return t
}

// badTableaux are rows that are no tableaux, with what fill.Check says of them.
func badTableaux() map[api.Errno][][][]int {
	return map[api.Errno][][][]int{
		api.ErrArg: {
			{{}}, {nil}, {{1}, {}}, {{}, {1}}, {{0}}, {{-1}}, {{100}}, {{1, 100}}, {{math.MinInt}}, {{math.MaxInt}},
			{{2, 1}}, {{1}, {1}}, {{2}, {1}}, {{1, 3}, {2, 2}}, {{1}, {2, 3}}, {{1, 1}, {2}, {3, 3}},
			{slices.Repeat([]int{0}, 40)}, columnFrom(61, 40), {slices.Repeat([]int{1}, 20), slices.Repeat([]int{1}, 20)},
		},
		api.ErrLarge: {
			{slices.Repeat([]int{1}, 41)}, columnFrom(1, 41), {rowFrom(1, 20), rowFrom(21, 20), {41}}, {make([]int, 1<<16)},
			{{1}, rowFrom(2, 40)}, {{}, rowFrom(1, 41)},
		},
	}
}

// greatTableaux are some of 39 and 40 boxes.
func greatTableaux() [][][]int {
	return [][][]int{
		{rowFrom(1, 39)}, {rowFrom(60, 40)}, {slices.Repeat([]int{99}, 39)}, {slices.Repeat([]int{1}, 40)},
		columnFrom(1, 39), columnFrom(61, 39), columnFrom(60, 40),
		{slices.Repeat([]int{98}, 20), slices.Repeat([]int{99}, 19)}, {rowFrom(1, 20), rowFrom(21, 20)},
	}
}

// shapes lists all partitions of n, by a road of its own.
func shapes(n, most int) [][]int {
	if n == 0 {
		return [][]int{nil}
	}
	var list [][]int
	for part := 1; part <= min(n, most); part++ {
		for _, rest := range shapes(n-part, part) {
			list = append(list, append([]int{part}, rest...))
		}
	}
	return list
}

// eachShape hands on all shapes of up to n boxes.
func eachShape(n int, do func(p []int)) {
	for m := range n + 1 {
		for _, p := range shapes(m, m) {
			do(p)
		}
	}
}

// eachTableau hands on all tableaux of up to n boxes with letters up to most.
func eachTableau(n, most int, do func(t [][]int)) {
	eachShape(n, func(p []int) {
		list, err := fill.AllOf(p, most)
		if err != api.OK {
			panic(err)
		}
		for _, t := range list {
			do(t)
		}
	})
}

// eachWord hands on all words of the lengths from 0 to n in the letters 1 to most.
func eachWord(n, most int, do func(w []int)) {
	var from func(w []int)
	from = func(w []int) {
		do(slices.Clone(w))
		if len(w) == n {
			return
		}
		for letter := 1; letter <= most; letter++ {
			from(append(slices.Clone(w), letter))
		}
	}
	from(nil)
}

// eachPermutation hands on all permutations of 1 to n.
func eachPermutation(n int, do func(w []int)) {
	p := rowFrom(1, n)
	var from func(k int)
	from = func(k int) {
		if k == n {
			do(slices.Clone(p))
			return
		}
		for i := k; i < n; i++ {
			p[k], p[i] = p[i], p[k]
			from(k + 1)
			p[k], p[i] = p[i], p[k]
		}
	}
	from(0)
}

// longWords are some that are as long as may be, or nearly, in few letters and in many.
func longWords() [][]int {
	source := rand.New(rand.NewSource(4))
	list := [][]int{
		rowFrom(1, 40), rowFrom(60, 40), slices.Repeat([]int{1}, 40), slices.Repeat([]int{99}, 40), slices.Repeat([]int{99, 1}, 20),
		append(rowFrom(21, 20), rowFrom(1, 20)...),
	}
	falling := rowFrom(60, 40)
	slices.Reverse(falling)
	list = append(list, falling)
	for _, most := range []int{2, 3, 10, 40, 99} {
		for range 20 {
			w := make([]int, 40-source.Intn(3))
			for i := range w {
				w[i] = 1 + source.Intn(most)
			}
			list = append(list, w)
		}
	}
	return list
}

func TestInsertExamples(t *testing.T) {
	for _, c := range []struct {
		t    [][]int
		x    int
		want [][]int
		row  int
	}{
		{nil, 1, [][]int{{1}}, 0},
		{[][]int{}, 99, [][]int{{99}}, 0},
		{[][]int{{2}}, 2, [][]int{{2, 2}}, 0},
		{[][]int{{2}}, 1, [][]int{{1}, {2}}, 1},
		{[][]int{{1, 2, 2}, {3}}, 1, [][]int{{1, 1, 2}, {2}, {3}}, 2},
		{[][]int{{1, 2, 2}, {3}}, 2, [][]int{{1, 2, 2, 2}, {3}}, 0},
		{[][]int{{1, 2, 3}, {3}}, 2, [][]int{{1, 2, 2}, {3, 3}}, 1},
		{[][]int{{1, 2, 2, 3}, {2, 3, 5, 5}, {4, 4, 6}, {5, 6}}, 2, [][]int{{1, 2, 2, 2}, {2, 3, 3, 5}, {4, 4, 5}, {5, 6, 6}}, 3},
		{[][]int{{1, 3}, {2}, {4}}, 99, [][]int{{1, 3, 99}, {2}, {4}}, 0},
		{columnFrom(61, 39), 60, columnFrom(60, 40), 39},
		{[][]int{rowFrom(1, 39)}, 39, [][]int{append(rowFrom(1, 39), 39)}, 0},
	} {
		got, row, err := Insert(c.t, c.x)
		if err != api.OK || row != c.row || !sameRows(got, c.want) {
			t.Error(c.t, c.x, got, row, err)
		}
	}
}

func TestInsertLeftExamples(t *testing.T) {
	for _, c := range []struct {
		t      [][]int
		x      int
		want   [][]int
		column int
	}{
		{nil, 1, [][]int{{1}}, 0},
		{[][]int{}, 99, [][]int{{99}}, 0},
		{[][]int{{2}}, 2, [][]int{{2, 2}}, 1},
		{[][]int{{2}}, 1, [][]int{{1, 2}}, 1},
		{[][]int{{2}}, 3, [][]int{{2}, {3}}, 0},
		{[][]int{{1, 2}, {3}}, 2, [][]int{{1, 2}, {2, 3}}, 1},
		{[][]int{{1, 2, 2}, {3}}, 1, [][]int{{1, 1, 2, 2}, {3}}, 3},
		{[][]int{{1, 1, 4}, {2, 3}, {3}}, 2, [][]int{{1, 1, 3, 4}, {2, 2}, {3}}, 3},
		{[][]int{{1, 3}, {2}, {4}}, 99, [][]int{{1, 3}, {2}, {4}, {99}}, 0},
		{columnFrom(60, 39), 99, columnFrom(60, 40), 0},
		{[][]int{rowFrom(2, 39)}, 1, [][]int{rowFrom(1, 40)}, 39},
	} {
		got, column, err := InsertLeft(c.t, c.x)
		if err != api.OK || column != c.column || !sameRows(got, c.want) {
			t.Error(c.t, c.x, got, column, err)
		}
	}
}

// inRows is P13 of one row after the other, as the document tells it.
func inRows(t [][]int, x int) [][]int {
	if len(t) == 0 {
		return [][]int{{x}}
	}
	first, rest := slices.Clone(t[0]), t[1:]
	for j, letter := range first {
		if letter > x {
			first[j] = x
			return append([][]int{first}, inRows(rest, letter)...)
		}
	}
	return append([][]int{append(first, x)}, rest...)
}

// inColumns is P13 of one column after the other, as the document tells it.
func inColumns(columns [][]int, x int) [][]int {
	if len(columns) == 0 {
		return [][]int{{x}}
	}
	first, rest := slices.Clone(columns[0]), columns[1:]
	for i, letter := range first {
		if letter >= x {
			first[i] = x
			return append([][]int{first}, inColumns(rest, letter)...)
		}
	}
	return append([][]int{append(first, x)}, rest...)
}

// flipped lets rows and columns change places, whatever the letters are.
func flipped(t [][]int) [][]int {
	var columns [][]int
	for _, row := range t {
		for j, letter := range row {
			if j == len(columns) {
				columns = append(columns, nil)
			}
			columns[j] = append(columns[j], letter)
		}
	}
	return columns
}

// whereMore tells which of the rows of b is longer than in a by one; all others must be as long.
func whereMore(a, b [][]int) int {
	at, more := -1, 0
	for i, row := range b {
		before := 0
		if i < len(a) {
			before = len(a[i])
		}
		if len(row) != before {
			at = i
			more += 2*(len(row)-before) - 1
		}
	}
	if more != 1 || len(b) < len(a) {
		return -1
	}
	return at
}

// checkInsertion holds all that P13 says against one tableau and one letter.
func checkInsertion(t *testing.T, a [][]int, x int) {
	t.Helper()
	b, row, err := Insert(a, x)
	if err != api.OK || !sameRows(b, inRows(a, x)) || fill.Check(b) != api.OK || row != whereMore(a, b) {
		t.Fatal(a, x, b, row, err)
	}
	c, column, err := InsertLeft(a, x)
	if err != api.OK || !sameRows(c, flipped(inColumns(flipped(a), x))) || fill.Check(c) != api.OK || column != whereMore(flipped(a), flipped(c)) {
		t.Fatal(a, x, c, column, err)
	}
}

func TestInsertion(t *testing.T) {
	eachTableau(6, 4, func(a [][]int) {
		for x := 1; x <= 5; x++ {
			checkInsertion(t, a, x)
		}
	})
	for _, a := range greatTableaux() {
		for x := 1; x <= 99; x++ {
			if boxesOf(a) < 40 {
				checkInsertion(t, a, x)
			}
		}
	}
}

// TestBothSidesCommute: a letter to the right and one to the left may come in either order (P13).
func TestBothSidesCommute(t *testing.T) {
	eachTableau(5, 4, func(a [][]int) {
		for x := 1; x <= 4; x++ {
			for y := 1; y <= 4; y++ {
				right, _, _ := Insert(a, x)
				rightLeft, _, _ := InsertLeft(right, y)
				left, _, _ := InsertLeft(a, y)
				leftRight, _, _ := Insert(left, x)
				if !sameRows(rightLeft, leftRight) {
					t.Fatal(a, x, y, rightLeft, leftRight)
				}
			}
		}
	})
}

func TestInsertionErrors(t *testing.T) {
	check := func(a [][]int, x int, want api.Errno) {
		t.Helper()
		if b, row, err := Insert(a, x); b != nil || row != 0 || err != want {
			t.Error("Insert", brief(a), x, b, row, err, want)
		}
		if b, column, err := InsertLeft(a, x); b != nil || column != 0 || err != want {
			t.Error("InsertLeft", brief(a), x, b, column, err, want)
		}
	}
	noLetters := []int{0, -1, 100, math.MinInt, math.MaxInt, 1<<32 + 1}
	for want, list := range badTableaux() {
		for _, a := range list {
			for _, x := range append(noLetters, 1, 99) {
				check(a, x, want)
			}
		}
	}
	for _, a := range append(greatTableaux(), nil, [][]int{{1}}, [][]int{{1, 2}, {3}}) {
		for _, x := range noLetters {
			check(a, x, api.ErrArg)
		}
		if boxesOf(a) == 40 {
			check(a, 1, api.ErrLarge)
			check(a, 99, api.ErrLarge)
		}
	}
}
