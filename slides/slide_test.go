package slides

import (
	"math"
	"slices"
	"testing"

	"ferrers/api"
	"ferrers/fill"
	"ferrers/insert"
)

func TestSlideExamples(t *testing.T) {
	for _, c := range []struct {
		s    [][]int
		row  int
		want [][]int
		gone int
	}{
		{[][]int{{0, 1, 2}, {1, 3}}, 0, [][]int{{1, 1, 2}, {3}}, 1},
		{[][]int{{0, 1}, {2}}, 0, [][]int{{1}, {2}}, 0},
		{[][]int{{0, 2}, {1}}, 0, [][]int{{1, 2}}, 1},
		{[][]int{{0, 2}, {2}}, 0, [][]int{{2, 2}}, 1},
		{[][]int{{0}, {1}}, 0, [][]int{{1}}, 1},
		{[][]int{{0}}, 0, nil, 0},
		{[][]int{{0, 99}}, 0, [][]int{{99}}, 0},
		{[][]int{{0, 0}, {1}}, 0, [][]int{{0}, {1}}, 0},
		{[][]int{{0, 0}, {0}}, 0, [][]int{{0}, {0}}, 0},
		{[][]int{{0, 0}, {0}}, 1, [][]int{{0, 0}}, 1},
		{[][]int{{0, 1}, {0}}, 1, [][]int{{0, 1}}, 1},
		{[][]int{{0, 1}, {0, 2}}, 1, [][]int{{0, 1}, {2}}, 1},
		{[][]int{{0, 0, 1}, {0, 2}, {1, 3}}, 0, [][]int{{0, 1}, {0, 2}, {1, 3}}, 0},
		{[][]int{{0, 0, 1}, {0, 2}, {1, 3}}, 1, [][]int{{0, 0, 1}, {1, 2}, {3}}, 2},
		{[][]int{{0, 2, 2}, {1, 3, 3}, {2, 4}}, 0, [][]int{{1, 2, 2}, {2, 3, 3}, {4}}, 2},
		{[][]int{{0, 1, 3}, {2, 2, 4}, {3, 5, 5}}, 0, [][]int{{1, 2, 3}, {2, 4, 5}, {3, 5}}, 2},
		{[][]int{rowOf(1, 39)}, 0, [][]int{rowFrom(1, 39)}, 0},
		{columnOf(1, 39), 0, columnFrom(1, 39), 39},
		{columnOf(39, 1), 38, columnOf(38, 1), 39},
		{columnOf(40, 0), 39, columnOf(39, 0), 39},
	} {
		got, gone, err := Slide(c.s, c.row)
		if err != api.OK || gone != c.gone || !sameRows(got, c.want) {
			t.Error(c.s, c.row, got, gone, err)
		}
	}
}

// boxes of a skew tableau, the holes among them, by their places.
func boxes(s [][]int) map[api.Point]int {
	all := map[api.Point]int{}
	for i, row := range s {
		for j, letter := range row {
			all[api.Point{X: j, Y: i}] = letter
		}
	}
	return all
}

// isCorner is P18's word of a box.
func isCorner(all map[api.Point]int, at api.Point) bool {
	is := func(at api.Point) bool {
		letter, ok := all[at]
		return ok && letter == 0
	}
	return is(at) && !is(api.Point{X: at.X + 1, Y: at.Y}) && !is(api.Point{X: at.X, Y: at.Y + 1})
}

// slideByWords is P18 of one slide, as the document tells it, and the row in which the box went away.
func slideByWords(s [][]int, at api.Point) ([][]int, int) {
	all := boxes(s)
	for {
		right, below := api.Point{X: at.X + 1, Y: at.Y}, api.Point{X: at.X, Y: at.Y + 1}
		lesser := below
		if all[below] == 0 || all[right] != 0 && all[right] < all[below] {
			lesser = right
		}
		if all[lesser] == 0 {
			break
		}
		all[at], all[lesser] = all[lesser], 0
		at = lesser
	}
	delete(all, at)
	var rows [][]int
	for y := range s {
		var row []int
		for x := range s[y] {
			if letter, ok := all[api.Point{X: x, Y: y}]; ok {
				row = append(row, letter)
			}
		}
		if len(row) > 0 {
			rows = append(rows, row)
		}
	}
	return rows, at.Y
}

// pee is the P of a skew tableau's word, which no slide changes.
func pee(s [][]int) [][]int {
	w, _ := Word(s)
	p, _, _ := insert.Make(w)
	return p
}

// checkSlides holds all that P18 says of one slide against a skew tableau and each row.
func checkSlides(t *testing.T, s [][]int) {
	t.Helper()
	all := boxes(s)
	for row := -1; row <= len(s); row++ {
		last := api.Point{X: -1, Y: row}
		for at, letter := range all {
			if at.Y == row && letter == 0 {
				last.X = max(last.X, at.X)
			}
		}
		got, gone, err := Slide(s, row)
		if !isCorner(all, last) {
			if got != nil || gone != 0 || err != api.ErrNone {
				t.Fatal(s, row, got, gone, err)
			}
			continue
		}
		want, end := slideByWords(s, last)
		if err != api.OK || !sameRows(got, want) || gone != end {
			t.Fatal(s, row, got, gone, err, want, end)
		}
		if Check(got) != api.OK || !sameRows(pee(got), pee(s)) {
			t.Fatal(s, row, got)
		}
	}
}

func TestSlides(t *testing.T) {
	eachSkew(7, 3, func(s [][]int) { checkSlides(t, s) })
	skews, _ := greatSkews()
	for _, s := range skews {
		checkSlides(t, s)
	}
}

func TestSlideErrors(t *testing.T) {
	check := func(s [][]int, row int, want api.Errno) {
		t.Helper()
		if a, gone, err := Slide(s, row); a != nil || gone != 0 || err != want {
			t.Error(brief(s), row, a, gone, err, want)
		}
	}
	noRows := []int{-1, 2, 40, math.MinInt, math.MaxInt, 1 << 32}
	for want, list := range badSkews() {
		for _, s := range list {
			for _, row := range append(noRows, 0, 1) {
				check(s, row, want)
			}
		}
	}
	for _, s := range [][][]int{nil, {}, {{0}}, {{0, 1}, {0, 2}}, {{0, 0}, {0}}} {
		for _, row := range noRows {
			check(s, row, api.ErrNone)
		}
	}
	check(nil, 0, api.ErrNone)
	check([][]int{{1}}, 0, api.ErrNone)
	check([][]int{{1, 2}, {3}}, 1, api.ErrNone)
	check([][]int{{0, 1}, {0, 2}}, 0, api.ErrNone)
	check([][]int{{0, 0}, {0, 0}}, 0, api.ErrNone)
	check([][]int{{0, 0, 1}, {0, 0}, {0, 1}}, 0, api.ErrNone)
	check([][]int{{0, 0, 1}, {0, 2}, {1, 3}}, 2, api.ErrNone)
}

func TestRectifyExamples(t *testing.T) {
	for _, c := range []struct {
		s, want [][]int
	}{
		{nil, nil},
		{[][]int{}, nil},
		{[][]int{{0}}, nil},
		{[][]int{{0, 0}, {0, 0}}, nil},
		{[][]int{make([]int, 40)}, nil},
		{columnOf(40, 0), nil},
		{[][]int{{0, 1}, {1}}, [][]int{{1, 1}}},
		{[][]int{{0, 1}, {2}}, [][]int{{1}, {2}}},
		{[][]int{{0, 0, 1}, {1, 2}}, [][]int{{1, 1}, {2}}},
		{[][]int{{0, 0}, {0, 1}, {1}}, [][]int{{1, 1}}},
		{[][]int{{0, 0, 1}, {0, 2}, {1, 3}}, [][]int{{1, 1}, {2}, {3}}},
		{[][]int{{0, 0, 3}, {0, 2}, {1}}, [][]int{{1, 2, 3}}},
		{[][]int{{0, 0, 1}, {0, 2}, {3}}, columnFrom(1, 3)},
		{[][]int{{1, 1, 2}, {2, 3}}, [][]int{{1, 1, 2}, {2, 3}}},
		{columnOf(20, 20), columnFrom(1, 20)},
		{[][]int{rowOf(20, 20)}, [][]int{rowFrom(1, 20)}},
		{[][]int{make([]int, 20), rowFrom(1, 20)}, [][]int{rowFrom(1, 20)}},
	} {
		if got, err := Rectify(c.s); err != api.OK || !sameRows(got, c.want) {
			t.Error(c.s, got, err, c.want)
		}
	}
}

// orders lists all standard tableaux of a skew tableau's holes.
func orders(s [][]int) [][][]int {
	var shape []int
	for _, row := range s {
		if n := len(row) - len(slices.DeleteFunc(slices.Clone(row), func(n int) bool { return n == 0 })); n > 0 {
			shape = append(shape, n)
		}
	}
	list, err := fill.All(shape)
	if err != api.OK {
		panic(err)
	}
	return list
}

// rectifyByWords is P18 of all slides, from the corner where order has its greatest number on.
func rectifyByWords(s, order [][]int) [][]int {
	at := map[int]api.Point{}
	for box, number := range boxes(order) {
		at[number] = box
	}
	for number := len(at); number > 0; number-- {
		if !isCorner(boxes(s), at[number]) {
			panic(number)
		}
		s, _ = slideByWords(s, at[number])
	}
	return s
}

// TestRectifyByAnyOrder: the road makes no difference, and leads to the P of the word.
func TestRectifyByAnyOrder(t *testing.T) {
	check := func(s, order [][]int) {
		want := rectifyByWords(s, order)
		if got, err := RectifyBy(s, order); err != api.OK || !sameRows(got, want) {
			t.Fatal(s, order, got, err, want)
		}
		if got, err := Rectify(s); err != api.OK || !sameRows(got, want) {
			t.Fatal(s, got, err, want)
		}
		if fill.Check(want) != api.OK || !sameRows(want, pee(s)) {
			t.Fatal(s, order, want)
		}
	}
	eachSkew(6, 3, func(s [][]int) {
		for _, order := range orders(s) {
			check(s, order)
		}
	})
	skews, ways := greatSkews()
	for i, s := range skews {
		check(s, ways[i])
	}
}

func TestRectifyErrors(t *testing.T) {
	for want, list := range badSkews() {
		for _, s := range list {
			if got, err := Rectify(s); got != nil || err != want {
				t.Error(brief(s), got, err, want)
			}
			// What is wrong of s is told ahead of what is wrong of the order.
			for _, order := range [][][]int{nil, {{1}}, {{2}}, {{0}}, {{2, 1}}, {rowFrom(1, 41)}} {
				if got, err := RectifyBy(s, order); got != nil || err != want {
					t.Error(brief(s), brief(order), got, err, want)
				}
			}
		}
	}
}

func TestOrderErrors(t *testing.T) {
	skews := [][][]int{nil, {{1}}, {{0}}, {{0, 1}, {0, 2}}, {{0, 0, 1}, {1, 2}}, {{0, 0}, {0, 1}}, {make([]int, 40)}}
	check := func(s, order [][]int, want api.Errno) {
		t.Helper()
		if got, err := RectifyBy(s, order); got != nil || err != want {
			t.Error(s, brief(order), got, err, want)
		}
	}
	for want, list := range badTableaux() {
		for _, order := range list {
			for _, s := range skews {
				check(s, order, want)
			}
		}
	}
	// Not standard, though of the right shape.
	for i, order := range [][][]int{nil, nil, {{2}}, {{1}, {3}}, {{1, 1}}, {{1, 2}, {2}}, {rowFrom(2, 40)}} {
		if order != nil {
			check(skews[i], order, api.ErrShape)
		}
	}
	// Not of the right shape, though standard.
	for i, right := range [][]int{nil, nil, {1}, {1, 1}, {2}, {2, 1}, {40}} {
		for _, shape := range [][]int{nil, {1}, {2}, {1, 1}, {3}, {2, 1}, {1, 1, 1}, {2, 2}, {2, 1, 1}, {40}, {39}, {39, 1}} {
			list, _ := fill.All(shape)
			for _, order := range list {
				if slices.Equal(shape, right) {
					if got, err := RectifyBy(skews[i], order); err != api.OK {
						t.Error(skews[i], order, got, err)
					}
					continue
				}
				check(skews[i], order, api.ErrShape)
			}
		}
	}
}

// TestOrderIsOfAllSmallShapes: whatever standard tableau is an order, its shape is the holes' or it is none.
func TestOrderIsOfAllSmallShapes(t *testing.T) {
	var standard [][][]int
	eachStandard(4, func(order [][]int) { standard = append(standard, order) })
	eachSkew(5, 2, func(s [][]int) {
		fit := 0
		for _, order := range standard {
			_, err := RectifyBy(s, order)
			switch err {
			case api.OK:
				fit++
			case api.ErrShape:
			default:
				t.Fatal(s, order, err)
			}
		}
		if holes := len(slices.DeleteFunc(slices.Concat(s...), func(n int) bool { return n != 0 })); holes <= 4 && fit != len(orders(s)) {
			t.Fatal(s, fit)
		}
	})
}
