package rule

import (
	"math"
	"slices"
	"testing"

	"ferrers/api"
)

func TestRow(t *testing.T) {
	for _, c := range []struct {
		p    []int
		k    int
		want [][]int
	}{
		{nil, 0, [][]int{{}}},
		{nil, 1, [][]int{{1}}},
		{nil, 3, [][]int{{3}}},
		{nil, 16, [][]int{{16}}},
		{[]int{}, 2, [][]int{{2}}},
		{[]int{2, 1}, 0, [][]int{{2, 1}}},
		{[]int{2, 1}, 1, [][]int{{3, 1}, {2, 2}, {2, 1, 1}}},
		{[]int{2, 1}, 2, [][]int{{4, 1}, {3, 2}, {3, 1, 1}, {2, 2, 1}}},
		{[]int{1, 1}, 2, [][]int{{3, 1}, {2, 1, 1}}},
		{[]int{2, 2}, 2, [][]int{{4, 2}, {3, 2, 1}, {2, 2, 2}}},
		{[]int{16}, 0, [][]int{{16}}},
		{[]int{8}, 8, [][]int{{16}, {15, 1}, {14, 2}, {13, 3}, {12, 4}, {11, 5}, {10, 6}, {9, 7}, {8, 8}}},
		{slices.Repeat([]int{1}, 15), 1, [][]int{append([]int{2}, slices.Repeat([]int{1}, 14)...), slices.Repeat([]int{1}, 16)}},
	} {
		if list, err := Row(c.p, c.k); err != api.OK || !sameRows(list, c.want) {
			t.Error(c.p, c.k, list, err)
		}
	}
}

func TestColumn(t *testing.T) {
	for _, c := range []struct {
		p    []int
		k    int
		want [][]int
	}{
		{nil, 0, [][]int{{}}},
		{nil, 1, [][]int{{1}}},
		{nil, 3, [][]int{{1, 1, 1}}},
		{nil, 16, [][]int{slices.Repeat([]int{1}, 16)}},
		{[]int{}, 2, [][]int{{1, 1}}},
		{[]int{2, 1}, 0, [][]int{{2, 1}}},
		{[]int{2, 1}, 1, [][]int{{3, 1}, {2, 2}, {2, 1, 1}}},
		{[]int{2, 1}, 2, [][]int{{3, 2}, {3, 1, 1}, {2, 2, 1}, {2, 1, 1, 1}}},
		{[]int{2}, 2, [][]int{{3, 1}, {2, 1, 1}}},
		{[]int{2, 2}, 2, [][]int{{3, 3}, {3, 2, 1}, {2, 2, 1, 1}}},
		{[]int{16}, 0, [][]int{{16}}},
		{[]int{15}, 1, [][]int{{16}, {15, 1}}},
		{[]int{8}, 8, [][]int{append([]int{9}, slices.Repeat([]int{1}, 7)...), append([]int{8}, slices.Repeat([]int{1}, 8)...)}},
	} {
		if list, err := Column(c.p, c.k); err != api.OK || !sameRows(list, c.want) {
			t.Error(c.p, c.k, list, err)
		}
	}
}

// byBoxes lists the shapes that have all boxes of p and k more, no two of which stand in one row (or column).
func byBoxes(p []int, k int, inRows bool) [][]int {
	var list [][]int
	for _, c := range shapes(boxesOf(p) + k) {
		var met [17]bool
		fine := len(c) >= len(p)
		for i := range p {
			fine = fine && c[i] >= p[i]
		}
		for i, part := range c {
			for j := partOf(p, i); j < part; j++ {
				line := j
				if inRows {
					line = i
				}
				fine = fine && !met[line]
				met[line] = true
			}
		}
		if fine {
			list = append(list, c)
		}
	}
	return list
}

// inProduct lists the shapes of a product; each is there once.
func inProduct(t *testing.T, a, b []int) [][]int {
	t.Helper()
	var list [][]int
	for _, term := range product(t, a, b) {
		if term.N != "1" {
			t.Fatal(a, b, term)
		}
		list = append(list, term.Part)
	}
	return list
}

// TestStripsBoxByBox: whatever the shape and the number, up to the greatest.
func TestStripsBoxByBox(t *testing.T) {
	eachShape(16, func(p []int) {
		for k := range 17 - boxesOf(p) {
			want := byBoxes(p, k, false)
			if list, err := Row(p, k); err != api.OK || !sameRows(list, want) {
				t.Fatal("Row", p, k, list, err, want)
			}
			want = byBoxes(p, k, true)
			if list, err := Column(p, k); err != api.OK || !sameRows(list, want) {
				t.Fatal("Column", p, k, list, err, want)
			}
		}
	})
}

// TestStripsAreProducts: PIERI.
func TestStripsAreProducts(t *testing.T) {
	check := func(p []int, k int) {
		row, column := []int{k}, slices.Repeat([]int{1}, k)
		if k == 0 {
			row = nil
		}
		if list, err := Row(p, k); err != api.OK || !sameRows(list, inProduct(t, p, row)) || !sameRows(list, inProduct(t, row, p)) {
			t.Fatal("Row", p, k, list, err)
		}
		if list, err := Column(p, k); err != api.OK || !sameRows(list, inProduct(t, p, column)) || !sameRows(list, inProduct(t, column, p)) {
			t.Fatal("Column", p, k, list, err)
		}
	}
	eachShape(9, func(p []int) {
		for k := range 10 - boxesOf(p) {
			check(p, k)
		}
	})
	for _, p := range [][]int{nil, {1}, {5, 3, 2}, {4, 4}, {3, 2, 2, 1}, {12}, slices.Repeat([]int{1}, 12), {5, 4, 3, 2, 1}, {4, 4, 4, 4}} {
		check(p, 16-boxesOf(p))
	}
}

func TestErrorsOfStrips(t *testing.T) {
	type call func([]int, int) ([][]int, api.Errno)
	for name, do := range map[string]call{"Row": Row, "Column": Column} {
		check := func(p []int, k int, want api.Errno) {
			if list, err := do(p, k); list != nil || err != want {
				t.Error(name, brief(p), k, list, err, want)
			}
		}
		ks := []int{0, 1, 17, -1, math.MinInt, math.MaxInt}
		for want, list := range badPartitions() {
			for _, p := range list {
				for _, k := range ks {
					check(p, k, want)
				}
			}
		}
		// A shape of too many boxes is told of ahead of a number below 0.
		for _, p := range wideShapes() {
			for _, k := range ks {
				check(p, k, api.ErrLarge)
			}
		}
		for _, p := range [][]int{nil, {1}, {4, 3, 2, 1}, {16}, slices.Repeat([]int{1}, 16)} {
			for _, k := range []int{-1, -2, -17, math.MinInt, math.MinInt + 1} {
				check(p, k, api.ErrArg)
			}
			for _, k := range []int{17 - boxesOf(p), 18 - boxesOf(p), 17, 40, math.MaxInt, math.MaxInt - 15} {
				check(p, k, api.ErrLarge)
			}
		}
	}
}
