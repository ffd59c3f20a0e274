package hooks

import (
	"slices"
	"testing"

	"ferrers/api"
)

func TestBelow(t *testing.T) {
	for _, c := range []struct {
		p    []int
		want [][]int
	}{
		{nil, nil},
		{[]int{}, nil},
		{[]int{1}, [][]int{{}}},
		{[]int{2}, [][]int{{1}}},
		{[]int{1, 1}, [][]int{{1}}},
		{[]int{2, 1}, [][]int{{1, 1}, {2}}},
		{[]int{2, 2}, [][]int{{2, 1}}},
		{[]int{2, 2, 1}, [][]int{{2, 1, 1}, {2, 2}}},
		{[]int{4, 2, 2, 1, 1}, [][]int{{3, 2, 2, 1, 1}, {4, 2, 1, 1, 1}, {4, 2, 2, 1}}},
		{[]int{3, 2, 1}, [][]int{{2, 2, 1}, {3, 1, 1}, {3, 2}}},
		{[]int{40}, [][]int{{39}}},
		{[]int{39, 1}, [][]int{{38, 1}, {39}}},
		{slices.Repeat([]int{1}, 40), [][]int{slices.Repeat([]int{1}, 39)}},
	} {
		if list, err := Below(c.p); err != api.OK || !sameRows(list, c.want) {
			t.Error(c.p, list, err)
		}
	}
}

func TestAbove(t *testing.T) {
	for _, c := range []struct {
		p    []int
		want [][]int
	}{
		{nil, [][]int{{1}}},
		{[]int{}, [][]int{{1}}},
		{[]int{1}, [][]int{{2}, {1, 1}}},
		{[]int{2, 1}, [][]int{{3, 1}, {2, 2}, {2, 1, 1}}},
		{[]int{2, 2}, [][]int{{3, 2}, {2, 2, 1}}},
		{[]int{1, 1, 1}, [][]int{{2, 1, 1}, {1, 1, 1, 1}}},
		{[]int{4, 2, 2, 1, 1}, [][]int{{5, 2, 2, 1, 1}, {4, 3, 2, 1, 1}, {4, 2, 2, 2, 1}, {4, 2, 2, 1, 1, 1}}},
		{[]int{39}, [][]int{{40}, {39, 1}}},
		{slices.Repeat([]int{1}, 39), [][]int{append([]int{2}, slices.Repeat([]int{1}, 38)...), slices.Repeat([]int{1}, 40)}},
	} {
		if list, err := Above(c.p); err != api.OK || !sameRows(list, c.want) {
			t.Error(c.p, list, err)
		}
	}
}

// rowOfTheBox tells in which row the greater shape has its one box more; false, if it is not that.
func rowOfTheBox(less, more []int) (int, bool) {
	row, boxes := -1, 0
	for i := range max(len(less), len(more)) {
		for j := range 40 {
			if hasBox(less, i, j) && !hasBox(more, i, j) {
				return 0, false
			}
			if hasBox(more, i, j) && !hasBox(less, i, j) {
				row = i
				boxes++
			}
		}
	}
	return row, boxes == 1
}

// byRow picks of all shapes those that have one box more, or less, by the row that has it.
func byRow(all [][]int, row func(q []int) (int, bool)) [][]int {
	picked := make(map[int][]int)
	for _, q := range all {
		if i, fine := row(q); fine {
			picked[i] = q
		}
	}
	var list [][]int
	for i := range 41 {
		if q, fine := picked[i]; fine {
			list = append(list, q)
		}
	}
	return list
}

// TestCornersAmongAllShapes holds both lists against all partitions of one box more or less.
func TestCornersAmongAllShapes(t *testing.T) {
	eachShape(11, func(p []int) {
		n := size(p)
		want := byRow(shapes(n+1, n+1), func(q []int) (int, bool) { return rowOfTheBox(p, q) })
		if list, err := Above(p); err != api.OK || !sameRows(list, want) {
			t.Fatal("Above", p, list, err, want)
		}
		want = nil
		if n > 0 {
			want = byRow(shapes(n-1, n-1), func(q []int) (int, bool) { return rowOfTheBox(q, p) })
		}
		if list, err := Below(p); err != api.OK || !sameRows(list, want) {
			t.Fatal("Below", p, list, err, want)
		}
	})
}

func holds(list [][]int, p []int) bool {
	return slices.ContainsFunc(list, func(q []int) bool { return slices.Equal(p, q) })
}

// TestWhatIsBelowHasItAbove: each list undoes the other, and there is one more above than below.
func TestWhatIsBelowHasItAbove(t *testing.T) {
	check := func(p []int) {
		below, err := Below(p)
		if err != api.OK {
			t.Fatal(p, err)
		}
		for _, q := range below {
			if list, err := Above(q); err != api.OK || !holds(list, p) {
				t.Fatal(p, q, list, err)
			}
		}
		if size(p) == api.MaxBoxes {
			return
		}
		above, err := Above(p)
		if err != api.OK || len(above) != len(below)+1 {
			t.Fatal(p, above, below, err)
		}
		for _, q := range above {
			if list, err := Below(q); err != api.OK || !holds(list, p) {
				t.Fatal(p, q, list, err)
			}
		}
	}
	eachShape(18, check)
	for _, n := range []int{38, 39, 40} {
		for _, p := range shapes(n, n) {
			check(p)
		}
	}
}

// TestFortyBoxes: below them are others, above them are none.
func TestFortyBoxes(t *testing.T) {
	for _, p := range shapes(40, 40) {
		if list, err := Above(p); list != nil || err != api.ErrLarge {
			t.Fatal(p, list, err)
		}
		if list, err := Below(p); err != api.OK || !sameRows(list, withoutABox(p)) {
			t.Fatal(p, list, err)
		}
	}
}

func TestErrorsOfCorners(t *testing.T) {
	for want, bad := range badPartitions() {
		for _, p := range bad {
			if list, err := Below(p); list != nil || err != want {
				t.Error("Below", len(p), list, err, want)
			}
			if list, err := Above(p); list != nil || err != want {
				t.Error("Above", len(p), list, err, want)
			}
		}
	}
}
