package signs

import (
	"math"
	"math/rand"
	"slices"
	"testing"

	"ferrers/api"
)

func cloneRows(m [][]int) [][]int {
	other := slices.Clone(m)
	for i, row := range other {
		other[i] = slices.Clone(row)
	}
	return other
}

// square is a table of n rows of n times the same number.
func square(n, number int) [][]int {
	var m [][]int
	for range n {
		m = append(m, slices.Repeat([]int{number}, n))
	}
	return m
}

// ofPermutation has 1 in row i at the column p(i), from 1 on.
func ofPermutation(p ...int) [][]int {
	m := square(len(p), 0)
	for i, column := range p {
		m[i][column-1] = 1
	}
	return m
}

// inOrder has 1 where row and column are the same.
func inOrder(n int) [][]int {
	m := square(n, 0)
	for i := range m {
		m[i][i] = 1
	}
	return m
}

// backward has the rows of m from the last one up.
func backward(m [][]int) [][]int {
	other := cloneRows(m)
	slices.Reverse(other)
	return other
}

// eachTable hands on all rows of such lengths of numbers from the least to the greatest.
func eachTable(lengths []int, least, greatest int, do func(m [][]int)) {
	var places []*int
	var m [][]int
	for _, length := range lengths {
		row := slices.Repeat([]int{least}, length)
		m = append(m, row)
		for j := range row {
			places = append(places, &row[j])
		}
	}
	for {
		do(m)
		k := len(places) - 1
		for k >= 0 && *places[k] == greatest {
			*places[k] = least
			k--
		}
		if k < 0 {
			return
		}
		*places[k]++
	}
}

// goesByTurns tells by P38's words whether a row, or a column, is right.
func goesByTurns(l []int) bool {
	rest := slices.DeleteFunc(slices.Clone(l), func(n int) bool { return n == 0 })
	if len(rest) == 0 || rest[len(rest)-1] != 1 {
		return false
	}
	for k, n := range rest {
		if k%2 == 0 && n != 1 || k%2 == 1 && n != -1 {
			return false
		}
	}
	return true
}

// isMatrix tells by P38's words whether m is one.
func isMatrix(m [][]int) bool {
	if len(m) < 1 || len(m) > 7 {
		return false
	}
	for _, row := range m {
		if len(row) != len(m) || !goesByTurns(row) {
			return false
		}
	}
	for j := range m {
		var l []int
		for i := range m {
			l = append(l, m[i][j])
		}
		if !goesByTurns(l) {
			return false
		}
	}
	return true
}

// rightRows are all of n numbers that go by turns, in their order.
func rightRows(n int) [][]int {
	var list [][]int
	eachTable([]int{n}, -1, 1, func(m [][]int) {
		if goesByTurns(m[0]) {
			list = append(list, slices.Clone(m[0]))
		}
	})
	return list
}

// eachMatrix hands on all of n rows, row by row, in their order.
func eachMatrix(n int, do func(m [][]int)) {
	rows := rightRows(n)
	var put func(soFar [][]int, sums []int)
	put = func(soFar [][]int, sums []int) {
		if len(soFar) == n {
			do(soFar)
			return
		}
		next := make([]int, n)
		for _, row := range rows {
			if addRow(next, sums, row) {
				put(append(soFar, row), next)
			}
		}
	}
	put(make([][]int, 0, n), make([]int, n))
}

// addRow tells what the columns come to with the row, and whether they go by turns so far.
func addRow(next, sums, row []int) bool {
	for j, sum := range sums {
		next[j] = sum + row[j]
		if next[j] < 0 || next[j] > 1 {
			return false
		}
	}
	return true
}

// matrices lists all of n rows, in their order.
func matrices(n int) [][][]int {
	return spreadMatrices(n, math.MaxInt)
}

// spreadMatrices lists about so many of n rows, or all, the first and the last one among them, in their order.
func spreadMatrices(n, many int) [][][]int {
	all := []int{1: 1, 2: 2, 3: 7, 4: 42, 5: 429, 6: 7436, 7: 218348}[n]
	step := all/many + 1
	var list [][][]int
	k := 0
	eachMatrix(n, func(m [][]int) {
		if k%step == 0 || k == all-1 {
			list = append(list, cloneRows(m))
		}
		k++
	})
	return list
}

// smallMatrices are all of up to so many rows.
func smallMatrices(most int) [][][]int {
	var list [][][]int
	for n := 1; n <= most; n++ {
		list = append(list, matrices(n)...)
	}
	return list
}

// someMatrices are all of up to 5 rows, and some of more.
func someMatrices() [][][]int {
	return slices.Concat(smallMatrices(5), spreadMatrices(6, 500), spreadMatrices(7, 500))
}

// badMatrices are none.
func badMatrices() [][][]int {
	list := [][][]int{
		nil, {}, {nil}, {{}}, {{0}}, {{-1}}, {{2}}, {{1, 0}}, {{1}, {0}}, {{1}, {}}, {{}, {1}}, {{}, {}},
		{{1, 0}, {0, 1}, {0, 0}}, {{1, 0}, {0}}, {{1, 0}, {0, 1, 0}}, {{1}, {0, 1}}, {{1, 0, 0}, {0, 1, 0}},
		{{1, 0}, {1, 0}}, {{1, 0}, {0, 0}}, {{0, 0}, {0, 0}}, {{1, 1}, {1, 1}}, {{1, 0}, {0, -1}}, {{-1, 0}, {0, -1}}, {{2, -1}, {-1, 2}},
		{{0, 1, 0}, {1, -1, 1}, {0, 1}}, {{0, 1, 0}, {1, -1, 1}, {0, 1, 0, 0}}, {{0, 1, 0}, {1, -1, 1}},
		{{0, 1, 0}, {1, -1, 1}, {0, 0, 1}}, {{1, 0, 0}, {1, -1, 1}, {-1, 2, 0}}, {{0, 2, -1}, {1, -2, 2}, {0, 1, 0}}, {{-1, 1, 1}, {1, 0, 0}, {1, 0, 0}},
		{{1, 1, -1}, {0, 0, 1}, {0, 0, 1}}, {{-1, 1, 1}, {1, -1, 1}, {1, 1, -1}}, {{1, -1, 1}, {-1, 1, 1}, {1, 1, -1}}, {{1, -1, 1}, {0, 1, 0}, {0, 1, 0}},
		{{math.MinInt}}, {{math.MaxInt}}, {{1, math.MinInt}, {0, 1}}, {{1 << 32}}, {{1<<32 + 1}}, {{-1 << 62, 1}, {1, 1 << 62}},
		{{math.MaxInt, math.MaxInt}, {math.MaxInt, math.MaxInt}}, {{math.MinInt, math.MinInt}, {1, 0}},
		inOrder(8), backward(inOrder(8)), inOrder(9), square(1000, 0), square(7, 0), square(7, 1), square(7, -1), make([][]int, 7), make([][]int, 8), {make([]int, 1000)},
		{make([]int, 7), make([]int, 7), make([]int, 7)},
	}
	return append(list, append(inOrder(7), make([]int, 7)), inOrder(7)[:6], append(inOrder(7)[:6], make([]int, 8)), append(inOrder(7)[:6], nil))
}

func TestCheck(t *testing.T) {
	for _, m := range [][][]int{
		{{1}},
		{{1, 0}, {0, 1}},
		{{0, 1}, {1, 0}},
		{{0, 1, 0}, {1, -1, 1}, {0, 1, 0}},
		{{0, 0, 1, 0}, {0, 1, -1, 1}, {1, -1, 1, 0}, {0, 1, 0, 0}},
		{{0, 1, 0, 0}, {1, -1, 0, 1}, {0, 0, 1, 0}, {0, 1, 0, 0}},
		{
			{0, 0, 0, 1, 0, 0, 0}, {0, 0, 1, -1, 1, 0, 0}, {0, 1, -1, 1, -1, 1, 0}, {1, -1, 1, -1, 1, -1, 1},
			{0, 1, -1, 1, -1, 1, 0}, {0, 0, 1, -1, 1, 0, 0}, {0, 0, 0, 1, 0, 0, 0},
		},
		inOrder(7),
		backward(inOrder(7)),
	} {
		if err := Check(m); err != api.OK {
			t.Error(m, err)
		}
	}
	for _, m := range badMatrices() {
		if err := Check(m); err != api.ErrArg {
			t.Error(m, err)
		}
	}
}

// checkByWords holds Check against P38's words, and tells whether m is a matrix.
func checkByWords(t *testing.T, m [][]int) bool {
	t.Helper()
	is, want := isMatrix(m), api.ErrArg
	if is {
		want = api.OK
	}
	if err := Check(m); err != want {
		t.Fatal(m, err, want)
	}
	return is
}

// TestCheckOfAllTables, of such lengths, and of such numbers.
func TestCheckOfAllTables(t *testing.T) {
	for _, c := range []struct {
		lengths         []int
		least, greatest int
		want            int
	}{
		{[]int{0}, 0, 0, 0},
		{[]int{1}, -3, 3, 1},
		{[]int{2}, -2, 2, 0},
		{[]int{1, 1}, -2, 2, 0},
		{[]int{1, 2}, -2, 2, 0},
		{[]int{2, 1}, -2, 2, 0},
		{[]int{2, 2}, -3, 3, 2},
		{[]int{2, 2, 2}, -1, 1, 0},
		{[]int{3, 3}, -1, 1, 0},
		{[]int{2, 3}, -1, 1, 0},
		{[]int{3, 3, 2}, -1, 1, 0},
		{[]int{2, 3, 3}, -1, 1, 0},
		{[]int{3, 3, 3}, -1, 1, 7},
		{[]int{3, 3, 3}, -1, 2, 7},
	} {
		got := 0
		eachTable(c.lengths, c.least, c.greatest, func(m [][]int) {
			if checkByWords(t, m) {
				got++
			}
		})
		if got != c.want {
			t.Error(c, got)
		}
	}
}

// TestCheckOfRightRows: all tables of 4 rows that go by turns, whatever their columns do.
func TestCheckOfRightRows(t *testing.T) {
	rows, got := rightRows(4), 0
	eachTable([]int{4}, 0, len(rows)-1, func(chosen [][]int) {
		var m [][]int
		for _, k := range chosen[0] {
			m = append(m, rows[k])
		}
		if checkByWords(t, m) {
			got++
		}
	})
	if got != 42 {
		t.Error(got)
	}
}

// TestCheckOfEachPlace: another number at any place is one too many, or too few.
func TestCheckOfEachPlace(t *testing.T) {
	for _, m := range someMatrices() {
		if !checkByWords(t, m) {
			t.Fatal(m)
		}
		for i, row := range m {
			for j := range row {
				for _, by := range []int{-2, -1, 1, 2, math.MinInt, 1 << 32} {
					row[j] += by
					if err := Check(m); err != api.ErrArg {
						t.Fatal(m, i, j, err)
					}
					row[j] -= by
				}
			}
		}
	}
}

// TestCheckOfBlocks: 1 more and 1 less at the corners of a block lets all rows and columns come to 1.
func TestCheckOfBlocks(t *testing.T) {
	source := rand.New(rand.NewSource(38))
	good, bad := 0, 0
	for _, m := range someMatrices() {
		for range 20 {
			i, j := source.Intn(len(m)), source.Intn(len(m))
			k, l := source.Intn(len(m)), source.Intn(len(m))
			other := cloneRows(m)
			other[i][j]++
			other[k][l]++
			other[i][l]--
			other[k][j]--
			if checkByWords(t, other) {
				good++
			} else {
				bad++
			}
		}
	}
	if good < 1000 || bad < 1000 {
		t.Error(good, bad)
	}
}

// TestErrorsOfCheck: all calls that are handed matrices answer what Check says.
func TestErrorsOfCheck(t *testing.T) {
	for _, m := range badMatrices() {
		for _, c := range calls() {
			if !c.ofMatrix {
				continue
			}
			for _, other := range [][][]int{nil, {{1}}, inOrder(2), inOrder(7), m} {
				if got := c.do(input{a: m, b: other}); got.err != api.ErrArg {
					t.Error(c.name, m, other, got)
				}
				if got := c.do(input{a: other, b: m}); c.ofTwo && got.err != api.ErrArg {
					t.Error(c.name, other, m, got)
				}
			}
		}
	}
}
