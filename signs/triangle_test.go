package signs

import (
	"math"
	"slices"
	"testing"

	"ferrers/api"
)

// triangleOf adds up by P39's words.
func triangleOf(m [][]int) [][]int {
	var t [][]int
	for i := range m {
		var row []int
		for j := range m {
			sum := 0
			for k := range i + 1 {
				sum += m[k][j]
			}
			if sum == 1 {
				row = append(row, j+1)
			}
		}
		t = append(t, row)
	}
	return t
}

// isTriangle: the rows rise, the last one has all columns, and each number is between those it stands over.
func isTriangle(t [][]int) bool {
	if len(t) < 1 || len(t) > 7 {
		return false
	}
	for i, row := range t {
		if len(row) != i+1 {
			return false
		}
		for k, number := range row {
			if k > 0 && number <= row[k-1] || i == len(t)-1 && number != k+1 {
				return false
			}
			if i > 0 && k < i && (t[i-1][k] < number || t[i-1][k] > row[k+1]) {
				return false
			}
		}
	}
	return true
}

func TestTriangle(t *testing.T) {
	for _, c := range []struct{ m, want [][]int }{
		{[][]int{{1}}, [][]int{{1}}},
		{[][]int{{1, 0}, {0, 1}}, [][]int{{1}, {1, 2}}},
		{[][]int{{0, 1}, {1, 0}}, [][]int{{2}, {1, 2}}},
		{ofPermutation(3, 1, 2), [][]int{{3}, {1, 3}, {1, 2, 3}}},
		{[][]int{{0, 1, 0}, {1, -1, 1}, {0, 1, 0}}, [][]int{{2}, {1, 3}, {1, 2, 3}}},
		{[][]int{{0, 1, 0, 0}, {1, -1, 0, 1}, {0, 0, 1, 0}, {0, 1, 0, 0}}, [][]int{{2}, {1, 4}, {1, 3, 4}, {1, 2, 3, 4}}},
	} {
		if got, err := Triangle(c.m); err != api.OK || !sameRows(got, c.want) {
			t.Error(c, got, err)
		}
		if back, err := FromTriangle(c.want); err != api.OK || !sameRows(back, c.m) {
			t.Error(c, back, err)
		}
	}
}

// TestTriangleAndBack, of all small matrices and of some great ones.
func TestTriangleAndBack(t *testing.T) {
	for _, m := range someMatrices() {
		got, err := Triangle(m)
		if err != api.OK || !sameRows(got, triangleOf(m)) || !isTriangle(got) {
			t.Fatal(m, got, err)
		}
		if back, err := FromTriangle(got); err != api.OK || !sameRows(back, m) {
			t.Fatal(m, got, back, err)
		}
	}
}

// checkTriangle holds FromTriangle against isTriangle, and tells what that says.
func checkTriangle(t *testing.T, rows [][]int) bool {
	t.Helper()
	m, err := FromTriangle(rows)
	if !isTriangle(rows) {
		if m != nil || err != api.ErrArg {
			t.Fatal(rows, m, err)
		}
		return false
	}
	if err != api.OK || !isMatrix(m) || !sameRows(triangleOf(m), rows) {
		t.Fatal(rows, m, err)
	}
	return true
}

func TestErrorsOfFromTriangle(t *testing.T) {
	fine := [][]int{{4}, {3, 5}, {2, 4, 6}, {1, 3, 5, 7}, {1, 3, 4, 5, 7}, {1, 2, 3, 5, 6, 7}, {1, 2, 3, 4, 5, 6, 7}}
	if !checkTriangle(t, fine) {
		t.Error(fine)
	}
	for _, rows := range [][][]int{
		nil, {}, {nil}, {{}}, {{0}}, {{2}}, {{-1}}, {{1, 1}}, {{1, 2}}, {{1}, {1}}, {{1}, {1, 2, 3}}, {{1}, {}}, {{}, {1}}, {{1}, nil}, {{1, 2}, {1}}, {{1, 2}, {1, 2}},
		{{1}, {2, 1}}, {{1}, {1, 1}}, {{2}, {2, 2}}, {{1}, {1, 3}}, {{0}, {1, 2}}, {{3}, {1, 2}}, {{1}, {0, 1}}, {{1}, {2, 3}},
		{{1}, {2, 3}, {1, 2, 3}}, {{3}, {1, 2}, {1, 2, 3}}, {{2}, {3, 1}, {1, 2, 3}}, {{2}, {1, 3}, {1, 3, 2}}, {{2}, {1, 3}, {1, 2, 4}}, {{2}, {1, 3}, {1, 2}}, {{2}, {1, 3}},
		{{2}, {1, 3}, {1, 2, 3}, {}}, {{2}, {1, 3}, {1, 2, 3}, {1, 2, 3}}, {{2}, {2, 2}, {1, 2, 3}}, {{2}, {1, 3}, {1, 1, 3}},
		{{math.MinInt}}, {{math.MaxInt}}, {{1 << 32}}, {{1<<32 + 1}}, {{1}, {1, math.MinInt}}, {{math.MaxInt}, {1, 2}}, {{8}},
		triangleOf(inOrder(8)), triangleOf(backward(inOrder(8))), triangleOf(inOrder(20)), make([][]int, 7), make([][]int, 1000), {make([]int, 1000)},
		fine[:6], fine[1:], append(slices.Clone(fine), []int{1, 2, 3, 4, 5, 6, 7, 8}), append(slices.Clone(fine), nil), backward(fine),
	} {
		if checkTriangle(t, rows) {
			t.Error(rows)
		}
	}
}

// TestFromTriangleOfAllTables: all that have the form, and some that have not.
func TestFromTriangleOfAllTables(t *testing.T) {
	for _, c := range []struct {
		lengths               []int
		least, greatest, want int
	}{
		{[]int{1}, -3, 3, 1},
		{[]int{1, 1}, -1, 3, 0},
		{[]int{2, 1}, -1, 3, 0},
		{[]int{2, 2}, -1, 3, 0},
		{[]int{1, 2}, -1, 4, 2},
		{[]int{1, 2, 3}, 0, 4, 7},
		{[]int{1, 2, 2}, 1, 3, 0},
		{[]int{1, 3, 3}, 1, 3, 0},
		{[]int{1, 2, 3, 4}, 1, 3, 0},
		{[]int{1, 2, 4}, 1, 4, 0},
	} {
		got := 0
		eachTable(c.lengths, c.least, c.greatest, func(rows [][]int) {
			if checkTriangle(t, rows) {
				got++
			}
		})
		if got != c.want {
			t.Error(c, got)
		}
	}
}

// TestFromTriangleOfEachPlace: another number at any place.
func TestFromTriangleOfEachPlace(t *testing.T) {
	other := 0
	for _, m := range someMatrices() {
		rows := triangleOf(m)
		for _, row := range rows {
			for k := range row {
				for _, by := range []int{-1, 1, 2, -7, 7, 1 << 32, math.MinInt} {
					row[k] += by
					if checkTriangle(t, rows) {
						other++
					}
					row[k] -= by
				}
			}
		}
	}
	if other < 1000 {
		t.Error(other)
	}
}
