package slides

import (
	"math"
	"math/rand"
	"slices"
	"testing"

	"ferrers/api"
	"ferrers/fill"
	"ferrers/insert"
)

// sameRows: are rows the same?
func sameRows(a, b [][]int) bool {
	return slices.EqualFunc(a, b, slices.Equal)
}

// brief leaves most of great rows out, so that they can be told.
func brief(t [][]int) [][]int {
	var rows [][]int
	for _, row := range t[:min(len(t), 42)] {
		rows = append(rows, row[:min(len(row), 42)])
	}
	return rows
}

func cloneRows(t [][]int) [][]int {
	t = slices.Clone(t)
	for i, row := range t {
		t[i] = slices.Clone(row)
	}
	return t
}

// rowFrom answers so many letters, from the first one up by one each.
func rowFrom(first, n int) []int {
	row := make([]int, n)
	for i := range row {
		row[i] = first + i
	}
	return row
}

// columnFrom answers the column of these letters.
func columnFrom(first, n int) [][]int {
	t := make([][]int, n)
	for i := range t {
		t[i] = []int{first + i}
	}
	return t
}

// columnOf answers a column of holes, and letters from 1 on below them.
func columnOf(holes, letters int) [][]int {
	return append(slices.Repeat([][]int{{0}}, holes), columnFrom(1, letters)...)
}

// rowOf answers a row of holes, and letters from 1 on behind them.
func rowOf(holes, letters int) []int {
	return append(make([]int, holes), rowFrom(1, letters)...)
}

// shapes lists all partitions of n, by a road of its own.
func shapes(n, most int) [][]int {
	if n == 0 {
		return [][]int{nil}
	}
	var list [][]int
	for part := 1; part <= min(n, most); part++ {
		for _, rest := range shapes(n-part, part) {
			list = append(list, append([]int{part}, rest...))
		}
	}
	return list
}

// eachShape hands on all shapes of up to n boxes.
func eachShape(n int, do func(p []int)) {
	for m := range n + 1 {
		for _, p := range shapes(m, m) {
			do(p)
		}
	}
}

// eachInner hands on how many holes the rows of the shape p may have.
func eachInner(p []int, do func(holes []int)) {
	var from func(holes []int)
	from = func(holes []int) {
		i := len(holes)
		if i == len(p) {
			do(holes)
			return
		}
		most := p[i]
		if i > 0 {
			most = min(most, holes[i-1])
		}
		for n := range most + 1 {
			from(append(slices.Clone(holes), n))
		}
	}
	from(nil)
}

// eachFilling hands on all skew tableaux of the shape with these holes and letters up to most.
func eachFilling(p, holes []int, most int, do func(s [][]int)) {
	var from func(s [][]int)
	from = func(s [][]int) {
		i := len(s) - 1
		if i < 0 || len(s[i]) == p[i] {
			if len(s) == len(p) {
				do(s)
				return
			}
			from(append(cloneRows(s), make([]int, holes[len(s)])))
			return
		}
		j, least := len(s[i]), 1
		if j > 0 {
			least = max(least, s[i][j-1])
		}
		if i > 0 {
			least = max(least, s[i-1][j]+1)
		}
		for letter := least; letter <= most; letter++ {
			more := cloneRows(s)
			more[i] = append(more[i], letter)
			from(more)
		}
	}
	from(nil)
}

// eachSkew hands on all skew tableaux of up to n boxes with letters up to most.
func eachSkew(n, most int, do func(s [][]int)) {
	eachShape(n, func(p []int) {
		eachInner(p, func(holes []int) { eachFilling(p, holes, most, do) })
	})
}

// cut makes holes of a tableau's boxes at the beginnings of its rows.
func cut(t [][]int, holes []int) [][]int {
	s := cloneRows(t)
	for i, n := range holes {
		clear(s[i][:n])
	}
	return s
}

// greatSkews are some of 38 to 40 boxes, in few letters and in many, each with an order of its holes.
func greatSkews() (skews, orders [][][]int) {
	source := rand.New(rand.NewSource(5))
	for _, most := range []int{2, 3, 10, 40, 99} {
		for range 40 {
			w := make([]int, 40-source.Intn(3))
			for i := range w {
				w[i] = 1 + source.Intn(most)
			}
			t, _, _ := insert.Make(w)
			var holes []int
			left := len(t[0])
			for _, row := range t {
				left = min(left, source.Intn(len(row)+1))
				holes = append(holes, left)
			}
			var inner [][]int
			for i, n := range holes {
				if n > 0 {
					inner = append(inner, t[i][:n])
				}
			}
			order, _ := fill.Standard(inner)
			skews, orders = append(skews, cut(t, holes)), append(orders, order)
		}
	}
	return skews, orders
}

// badSkews are rows that are no skew tableaux, with what Check says of them.
func badSkews() map[api.Errno][][][]int {
	return map[api.Errno][][][]int{
		api.ErrArg: {
			{{}}, {nil}, {{0}, {}}, {{1}, {}}, {{}, {1}}, {{}, {0}}, {{0}, {}, {1}}, make([][]int, 100), make([][]int, 1<<16),
			{{-1}}, {{0, -1}}, {{-1, 0}}, {{0, 0, -1, 1}}, {{math.MinInt}}, {{math.MaxInt}}, {{100}}, {{0, 100}}, {{0, 1, 100}}, {{0, 0}, {0, 100}},
			{{1, 0}}, {{0, 1, 0}}, {{0, 1, 0, 1}}, {{2, 0, 3}}, {{2, 1}}, {{0, 2, 1}}, {{0, 0, 1, 3, 2}},
			{{1}, {0}}, {{0, 1}, {0, 0}}, {{0, 1, 1}, {0, 0, 2}}, {{0, 0, 1}, {1, 2}, {0}}, {{0, 0}, {0, 1}, {0, 0}},
			{{0}, {0, 0}}, {{0}, {0, 1}}, {{0}, {1, 2}}, {{0, 0}, {0}, {0, 1}}, {{0, 0}, {1, 2, 3}},
			{{1}, {1}}, {{2}, {1}}, {{0, 1}, {1, 1}}, {{0, 2}, {0, 1}}, {{0, 2}, {1, 1}}, {{0, 0, 3}, {0, 1, 2}}, {{0, 1, 2}, {1, 2, 2}},
			{{0, 0, 1}, {0, 2}, {1, 2}}, {{0}, {2}, {2}}, columnFrom(61, 40), append(columnFrom(0, 1), columnFrom(62, 39)...),
			{append(make([]int, 39), -1)}, {append(make([]int, 39), 100)}, {append([]int{1}, make([]int, 39)...)},
		},
		api.ErrLarge: {
			{make([]int, 41)}, slices.Repeat([][]int{{0}}, 41), {rowOf(40, 1)}, {rowOf(1, 40)}, columnOf(40, 1), columnOf(1, 40), columnFrom(1, 41),
			{make([]int, 20), make([]int, 20), {0}}, {make([]int, 20), rowFrom(1, 20), {2}}, {rowFrom(1, 20), rowFrom(21, 20), {41}}, {rowFrom(1, 41)},
			{{}, make([]int, 41)}, {{1}, make([]int, 40)}, {slices.Repeat([]int{-1}, 41)}, {slices.Repeat([]int{100}, 41)}, {{2, 1}, rowOf(20, 19)},
			{make([]int, 1<<16)}, slices.Repeat([][]int{{1, 0}}, 1<<16),
		},
	}
}

func TestCheckExamples(t *testing.T) {
	for _, s := range [][][]int{
		nil, {}, {{0}}, {{1}}, {{99}}, {{0, 0}}, {{0}, {0}}, {{0, 0}, {0, 0}}, {{0, 1}, {1}}, {{0, 99}, {1}}, {{0}, {1}}, {{0, 0}, {1}}, {{0, 5}, {1, 6}},
		{{0, 0, 1}, {0, 2}, {1, 3}}, {{0, 0, 0}, {0, 0}, {1, 1}}, {{0, 0, 5}, {0, 0}, {0, 1}}, {{0, 0, 1}, {0, 0}, {0, 0}}, {{0, 0, 2}, {0, 1, 3}, {0}},
		{{1, 1, 2}, {2, 3}}, {{0, 3, 3}, {1, 4, 4}}, {{0, 0, 9}, {1, 1}},
		{make([]int, 40)}, slices.Repeat([][]int{{0}}, 40), {rowOf(39, 1)}, {rowOf(1, 39)}, columnOf(39, 1), columnOf(1, 39), columnFrom(60, 40),
		append([][]int{{0}}, columnFrom(61, 39)...), {append(make([]int, 20), slices.Repeat([]int{99}, 20)...)},
		{make([]int, 20), make([]int, 20)}, {make([]int, 20), rowFrom(1, 20)}, {rowFrom(1, 20), rowFrom(2, 20)},
	} {
		if err := Check(s); err != api.OK {
			t.Error(s, err)
		}
	}
	for want, list := range badSkews() {
		for _, s := range list {
			if err := Check(s); err != want {
				t.Error(brief(s), err, want)
			}
		}
	}
}

// isSkew is P17 as the document tells it, of rows with no more boxes than may be.
func isSkew(s [][]int) bool {
	letters, holes := map[api.Point]int{}, []int{}
	for i, row := range s {
		if len(row) == 0 || i > 0 && len(row) > len(s[i-1]) {
			return false
		}
		k := 0
		for k < len(row) && row[k] == 0 {
			k++
		}
		if holes = append(holes, k); i > 0 && k > holes[i-1] {
			return false
		}
		for j := k; j < len(row); j++ {
			if row[j] < 1 || row[j] > 99 {
				return false
			}
			letters[api.Point{X: j, Y: i}] = row[j]
		}
	}
	for at, letter := range letters {
		if right, ok := letters[api.Point{X: at.X + 1, Y: at.Y}]; ok && right < letter {
			return false
		}
		if below, ok := letters[api.Point{X: at.X, Y: at.Y + 1}]; ok && below <= letter {
			return false
		}
	}
	return true
}

// eachRows hands on all lists of up to so many rows of up to so many of these numbers.
func eachRows(high, wide int, numbers []int, do func(s [][]int)) {
	var rows [][]int
	var along func(row []int)
	along = func(row []int) {
		rows = append(rows, row)
		if len(row) < wide {
			for _, n := range numbers {
				along(append(slices.Clone(row), n))
			}
		}
	}
	along(nil)
	var down func(s [][]int)
	down = func(s [][]int) {
		do(s)
		if len(s) < high {
			for _, row := range rows {
				down(append(slices.Clone(s), row))
			}
		}
	}
	down(nil)
}

// TestCheckOfAllSmallRows: P17's words, and as many as are made one by one.
func TestCheckOfAllSmallRows(t *testing.T) {
	fits := func(s [][]int, high, wide int) bool {
		return len(s) <= high && (len(s) == 0 || len(s[0]) <= wide)
	}
	for _, c := range []struct {
		high, wide int
		numbers    []int
	}{
		{3, 3, []int{0, 1, 2}}, {2, 4, []int{0, 1, 2}}, {4, 2, []int{0, 1, 2}}, {2, 2, []int{-1, 0, 1, 2, 3, 99, 100}},
	} {
		count := 0
		eachRows(c.high, c.wide, c.numbers, func(s [][]int) {
			want := api.ErrArg
			if isSkew(s) {
				want = api.OK
				count++
			}
			if err := Check(s); err != want {
				t.Fatal(s, err, want)
			}
		})
		if len(c.numbers) == 3 {
			eachSkew(c.high*c.wide, 2, func(s [][]int) {
				if fits(s, c.high, c.wide) {
					count--
				}
			})
			if count != 0 {
				t.Error(c, "as many as are not listed:", count)
			}
		}
	}
}

// TestTableauxAreSkew: a tableau is one without holes, and one without holes is a tableau.
func TestTableauxAreSkew(t *testing.T) {
	eachRows(3, 3, []int{1, 2, 3}, func(s [][]int) {
		if err, want := Check(s), fill.Check(s); err != want {
			t.Fatal(s, err, want)
		}
	})
}

func TestWordExamples(t *testing.T) {
	for _, c := range []struct {
		s    [][]int
		want []int
	}{
		{nil, nil},
		{[][]int{}, nil},
		{[][]int{{0, 0}, {0}}, nil},
		{[][]int{{7}}, []int{7}},
		{[][]int{{0, 1}, {1}}, []int{1, 1}},
		{[][]int{{0, 1}, {2}}, []int{2, 1}},
		{[][]int{{1, 1, 2}, {2, 3}}, []int{2, 3, 1, 1, 2}},
		{[][]int{{0, 0, 1}, {0, 2}, {1, 3}}, []int{1, 3, 2, 1}},
		{[][]int{{0, 0, 0, 4}, {0, 0}, {0, 99}, {1}}, []int{1, 99, 4}},
		{[][]int{rowOf(1, 39)}, rowFrom(1, 39)},
		{[][]int{make([]int, 40)}, nil},
	} {
		if w, err := Word(c.s); err != api.OK || !slices.Equal(w, c.want) {
			t.Error(c.s, w, err, c.want)
		}
	}
}

// TestWord: all that is no hole, the last row first.
func TestWord(t *testing.T) {
	check := func(s [][]int) {
		var want []int
		for _, row := range slices.Backward(s) {
			for _, letter := range row {
				if letter != 0 {
					want = append(want, letter)
				}
			}
		}
		if w, err := Word(s); err != api.OK || !slices.Equal(w, want) {
			t.Fatal(s, w, err, want)
		}
	}
	eachSkew(6, 3, check)
	skews, _ := greatSkews()
	for _, s := range skews {
		check(s)
	}
}

func TestWordErrors(t *testing.T) {
	for want, list := range badSkews() {
		for _, s := range list {
			if w, err := Word(s); w != nil || err != want {
				t.Error(brief(s), w, err, want)
			}
		}
	}
}
