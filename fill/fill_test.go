package fill

import (
	"cmp"
	"math"
	"slices"
	"testing"

	"ferrers/api"
)

// sameRows: are rows the same?
func sameRows(a, b [][]int) bool {
	return slices.EqualFunc(a, b, slices.Equal)
}

// rowFrom answers so many letters, from the first one up by one each.
func rowFrom(first, n int) []int {
	row := make([]int, n)
	for i := range row {
		row[i] = first + i
	}
	return row
}

// columnFrom answers the column of these letters.
func columnFrom(first, n int) [][]int {
	t := make([][]int, n)
	for i := range t {
		t[i] = []int{first + i}
	}
	return t
}

// brief leaves most of great rows out, so that they can be told.
func brief(t [][]int) [][]int {
	var rows [][]int
	for _, row := range t[:min(len(t), 42)] {
		rows = append(rows, row[:min(len(row), 42)])
	}
	return rows
}

// badTableaux are rows that are no tableaux, with what Check says of them.
func badTableaux() map[api.Errno][][][]int {
	return map[api.Errno][][][]int{
		api.ErrArg: {
			{{}}, {nil}, {{1}, {}}, {{}, {1}}, {{1, 2}, nil, {3}}, {{1}, {2}, {}}, slices.Repeat([][]int{{}}, 41),
			{{0}}, {{-1}}, {{100}}, {{1, 100}}, {{0, 1}}, {{1}, {100}}, {{1, 2}, {0}}, {{math.MinInt}}, {{math.MaxInt}},
			{{1, math.MaxInt}}, {{math.MinInt, 1}}, {{1 << 32}}, {{1<<32 + 1}}, {{257}}, {{1, 2, 1 << 40}},
			{{2, 1}}, {{1, 3, 2}}, {{1, 2}, {4, 3}}, {{1, 2, 3, 4, 3}},
			{{1}, {1}}, {{2}, {1}}, {{1, 2}, {2, 2}}, {{1, 3}, {2, 2}}, {{1, 1}, {2, 2}, {3, 2}}, {{1}, {2}, {2}}, {{1}, {3}, {2}},
			{{1}, {2, 3}}, {{1, 1}, {2}, {3, 3}}, {{1, 1}, {2, 2, 2}}, {{1}, {2}, {3, 4}},
			{slices.Repeat([]int{0}, 40)}, {slices.Repeat([]int{100}, 40)}, slices.Repeat([][]int{{1}}, 40), columnFrom(61, 40),
			{slices.Repeat([]int{1}, 20), slices.Repeat([]int{1}, 20)},
		},
		api.ErrLarge: {
			{slices.Repeat([]int{1}, 41)}, columnFrom(1, 41), {rowFrom(1, 20), rowFrom(21, 20), {41}}, {rowFrom(1, 99)},
			{slices.Repeat([]int{0}, 41)}, {slices.Repeat([]int{100}, 41)}, slices.Repeat([][]int{{1}}, 41),
			{{1}, rowFrom(2, 40)}, {{}, rowFrom(1, 41)}, {rowFrom(1, 40), {}, {1}}, {{2, 1}, slices.Repeat([]int{1}, 39)},
			append(slices.Repeat([][]int{nil}, 1000), rowFrom(1, 41)), {make([]int, 1<<16)}, slices.Repeat([][]int{make([]int, 1<<16)}, 1<<10),
		},
	}
}

// eachBad hands on each of badTableaux.
func eachBad(do func(t [][]int, want api.Errno)) {
	for want, list := range badTableaux() {
		for _, t := range list {
			do(t, want)
		}
	}
}

// someTableaux are some that are great, or have great letters.
func someTableaux() [][][]int {
	return [][][]int{
		nil, {}, {{1}}, {{99}}, {{98, 99}}, {{98}, {99}}, {{99, 99, 99}},
		{rowFrom(1, 40)}, {rowFrom(60, 40)}, {slices.Repeat([]int{1}, 40)}, {slices.Repeat([]int{99}, 40)},
		columnFrom(1, 40), columnFrom(60, 40),
		{rowFrom(1, 20), rowFrom(21, 20)}, {slices.Repeat([]int{98}, 20), slices.Repeat([]int{99}, 20)},
		{{1, 1, 2}, {2, 3}}, {{1, 1, 2, 10}, {2, 10, 10}, {11}}, {{5, 5, 9}, {7, 9}, {9}}, {{1, 1, 1}, {2, 2, 2}, {3, 3, 3}},
		{{1, 2, 2, 3, 3, 3, 9}, {2, 3, 3, 9, 9, 9}, {4, 9, 9}, {99}},
	}
}

// shapes lists all partitions of n, by a road of its own.
func shapes(n, most int) [][]int {
	if n == 0 {
		return [][]int{nil}
	}
	var list [][]int
	for part := 1; part <= min(n, most); part++ {
		for _, rest := range shapes(n-part, part) {
			list = append(list, append([]int{part}, rest...))
		}
	}
	return list
}

// eachFilling hands on all ways to put the letters from low to high into rows of these lengths,
// by their order: the letters as a number, the first one as its first digit.
func eachFilling(lengths []int, low, high int, do func(t [][]int)) {
	rows := make([][]int, len(lengths))
	for i, n := range lengths {
		rows[i] = make([]int, n)
	}
	var from func(i, j int)
	from = func(i, j int) {
		switch {
		case i == len(rows):
			do(rows)
		case j == len(rows[i]):
			from(i+1, 0)
		default:
			for letter := low; letter <= high; letter++ {
				rows[i][j] = letter
				from(i, j+1)
			}
		}
	}
	from(0, 0)
}

// isTableau says it box by box, as the document does.
func isTableau(t [][]int) bool {
	for i, row := range t {
		if len(row) == 0 || i > 0 && len(row) > len(t[i-1]) {
			return false
		}
		for j, letter := range row {
			if letter < 1 || letter > 99 || j > 0 && row[j-1] > letter || i > 0 && t[i-1][j] >= letter {
				return false
			}
		}
	}
	return true
}

// eachTableau hands on the small ones and the great ones.
func eachTableau(do func(t [][]int)) {
	for n := range 6 {
		for _, p := range shapes(n, n) {
			eachFilling(p, 1, 4, func(t [][]int) {
				if isTableau(t) {
					do(t)
				}
			})
		}
	}
	for _, t := range someTableaux() {
		do(t)
	}
}

func TestCheck(t *testing.T) {
	for _, a := range someTableaux() {
		if err := Check(a); err != api.OK {
			t.Error(a, err)
		}
	}
	eachBad(func(a [][]int, want api.Errno) {
		if err := Check(a); err != want {
			t.Error(brief(a), err, want)
		}
	})
}

// TestCheckOfAllSmallRows: rows of any lengths, letters that are none among them.
func TestCheckOfAllSmallRows(t *testing.T) {
	for _, lengths := range [][]int{
		{}, {0}, {1}, {2}, {3}, {4}, {0, 0}, {0, 1}, {1, 0}, {1, 1}, {1, 2}, {2, 1}, {2, 2}, {2, 3}, {3, 2}, {3, 3}, {3, 0}, {0, 3},
		{1, 1, 1}, {2, 1, 1}, {1, 2, 1}, {2, 2, 1}, {2, 1, 2}, {2, 2, 2}, {2, 0, 1}, {1, 1, 0}, {1, 1, 1, 1}, {2, 2, 1, 1},
	} {
		eachFilling(lengths, 0, 3, func(a [][]int) {
			want := api.ErrArg
			if isTableau(a) {
				want = api.OK
			}
			if err := Check(a); err != want {
				t.Fatal(a, err, want)
			}
		})
	}
}

// TestErrorsOfCheck: each call that is handed a tableau answers what Check says of it, and nothing else.
func TestErrorsOfCheck(t *testing.T) {
	lists := map[string]func([][]int) ([]int, api.Errno){"Shape": Shape, "Content": Content, "Word": Word}
	tableaux := map[string]func([][]int) ([][]int, api.Errno){"Standard": Standard, "Turned": Turned}
	eachBad(func(a [][]int, want api.Errno) {
		for name, do := range lists {
			if l, err := do(a); l != nil || err != want {
				t.Error(name, brief(a), l, err, want)
			}
		}
		for name, do := range tableaux {
			if b, err := do(a); b != nil || err != want {
				t.Error(name, brief(a), b, err, want)
			}
		}
		if yes, err := IsStandard(a); yes || err != want {
			t.Error("IsStandard", brief(a), yes, err, want)
		}
		if s, err := Write(a); s != "" || err != want {
			t.Error("Write", brief(a), s, err, want)
		}
	})
}

func TestShapeContentWord(t *testing.T) {
	for _, c := range []struct {
		a                    [][]int
		shape, content, word []int
	}{
		{nil, nil, nil, nil},
		{[][]int{}, nil, nil, nil},
		{[][]int{{1}}, []int{1}, []int{1}, []int{1}},
		{[][]int{{3}}, []int{1}, []int{0, 0, 1}, []int{3}},
		{[][]int{{1, 1, 2}, {2, 3}}, []int{3, 2}, []int{2, 2, 1}, []int{2, 3, 1, 1, 2}},
		{[][]int{{1, 4}, {4}, {6}}, []int{2, 1, 1}, []int{1, 0, 0, 2, 0, 1}, []int{6, 4, 1, 4}},
		{[][]int{{2, 2}, {3, 3}, {4, 4}}, []int{2, 2, 2}, []int{0, 2, 2, 2}, []int{4, 4, 3, 3, 2, 2}},
		{[][]int{{1, 1, 9}, {2, 2}}, []int{3, 2}, []int{2, 2, 0, 0, 0, 0, 0, 0, 1}, []int{2, 2, 1, 1, 9}},
		{[][]int{slices.Repeat([]int{99}, 40)}, []int{40}, append(make([]int, 98), 40), slices.Repeat([]int{99}, 40)},
		{columnFrom(1, 40), slices.Repeat([]int{1}, 40), slices.Repeat([]int{1}, 40), backwards(rowFrom(1, 40))},
	} {
		if p, err := Shape(c.a); err != api.OK || !slices.Equal(p, c.shape) {
			t.Error("Shape", c.a, p, err, c.shape)
		}
		if l, err := Content(c.a); err != api.OK || !slices.Equal(l, c.content) {
			t.Error("Content", c.a, l, err, c.content)
		}
		if w, err := Word(c.a); err != api.OK || !slices.Equal(w, c.word) {
			t.Error("Word", c.a, w, err, c.word)
		}
	}
}

func backwards(l []int) []int {
	l = slices.Clone(l)
	slices.Reverse(l)
	return l
}

// TestShapeContentWordOfAll: what they say fits together, and the tableau can be told from shape and word.
func TestShapeContentWordOfAll(t *testing.T) {
	eachTableau(func(a [][]int) {
		shape, _ := Shape(a)
		content, _ := Content(a)
		word, _ := Word(a)
		var back [][]int
		for i, end := 0, len(word); i < len(shape); i++ {
			back = append(back, word[end-shape[i]:end])
			end -= shape[i]
		}
		if !sameRows(back, a) {
			t.Fatal(a, shape, word)
		}
		greatest := 0
		for letter, times := range content {
			found := 0
			for _, l := range word {
				if l == letter+1 {
					found++
				}
				greatest = max(greatest, l)
			}
			if found != times {
				t.Fatal(a, content)
			}
		}
		if len(content) != greatest {
			t.Fatal(a, content)
		}
	})
}

func TestIsStandard(t *testing.T) {
	for _, c := range []struct {
		a    [][]int
		want bool
	}{
		{nil, true},
		{[][]int{}, true},
		{[][]int{{1}}, true},
		{[][]int{{2}}, false},
		{[][]int{{1, 1}}, false},
		{[][]int{{1, 2}}, true},
		{[][]int{{1, 3}}, false},
		{[][]int{{1, 2}, {3}}, true},
		{[][]int{{1, 3}, {2}}, true},
		{[][]int{{1, 2}, {2}}, false},
		{[][]int{{2, 3}, {4}}, false},
		{[][]int{{1, 3}, {4}}, false},
		{[][]int{{1, 2, 4}, {3, 5}}, true},
		{[][]int{{1, 1, 3}, {4, 5}}, false},
		{[][]int{rowFrom(1, 40)}, true},
		{[][]int{rowFrom(2, 40)}, false},
		{columnFrom(1, 40), true},
		{columnFrom(60, 40), false},
	} {
		if yes, err := IsStandard(c.a); err != api.OK || yes != c.want {
			t.Error(c.a, yes, err)
		}
	}
	eachTableau(func(a [][]int) {
		letters := slices.Sorted(slices.Values(slices.Concat(a...)))
		want := slices.Equal(letters, rowFrom(1, len(letters)))
		if yes, err := IsStandard(a); err != api.OK || yes != want {
			t.Fatal(a, yes, err)
		}
	})
}

func TestStandard(t *testing.T) {
	for _, c := range []struct{ a, want [][]int }{
		{nil, nil},
		{[][]int{}, nil},
		{[][]int{{7}}, [][]int{{1}}},
		{[][]int{{1, 1, 1}}, [][]int{{1, 2, 3}}},
		{[][]int{{5}, {7}, {99}}, [][]int{{1}, {2}, {3}}},
		{[][]int{{1, 2}, {2}}, [][]int{{1, 3}, {2}}},
		{[][]int{{1, 1, 2}, {2, 3}}, [][]int{{1, 2, 4}, {3, 5}}},
		{[][]int{{1, 1, 3}, {2, 3}, {3}}, [][]int{{1, 2, 6}, {3, 5}, {4}}},
		{[][]int{{1, 2, 2, 9}, {2, 9}}, [][]int{{1, 3, 4, 6}, {2, 5}}},
		{[][]int{{98, 98}, {99, 99}}, [][]int{{1, 2}, {3, 4}}},
		{[][]int{slices.Repeat([]int{99}, 40)}, [][]int{rowFrom(1, 40)}},
		{columnFrom(60, 40), columnFrom(1, 40)},
		{[][]int{slices.Repeat([]int{3}, 20), slices.Repeat([]int{4}, 20)}, [][]int{rowFrom(1, 20), rowFrom(21, 20)}},
	} {
		if b, err := Standard(c.a); err != api.OK || !sameRows(b, c.want) {
			t.Error(c.a, b, err, c.want)
		}
	}
}

// TestStandardOfAll: the boxes in the order of the new letters are in that of letters, then of columns.
func TestStandardOfAll(t *testing.T) {
	type box struct{ row, column int }
	eachTableau(func(a [][]int) {
		b, err := Standard(a)
		if err != api.OK || !isTableau(b) || len(a) != len(b) {
			t.Fatal(a, b, err)
		}
		var boxes []box
		for i, row := range a {
			for j := range row {
				boxes = append(boxes, box{i, j})
			}
		}
		slices.SortFunc(boxes, func(x, y box) int {
			return cmp.Or(cmp.Compare(a[x.row][x.column], a[y.row][y.column]), cmp.Compare(x.column, y.column))
		})
		for k, x := range boxes {
			if b[x.row][x.column] != k+1 {
				t.Fatal(a, b)
			}
		}
	})
}

func TestTurned(t *testing.T) {
	for _, c := range []struct{ a, want [][]int }{
		{nil, nil},
		{[][]int{}, nil},
		{[][]int{{4}}, [][]int{{4}}},
		{[][]int{{1, 2, 4}, {3, 5}}, [][]int{{1, 3}, {2, 5}, {4}}},
		{[][]int{{1, 2}, {2, 3}}, [][]int{{1, 2}, {2, 3}}},
		{[][]int{{1, 3}, {2, 4}}, [][]int{{1, 2}, {3, 4}}},
		{[][]int{{1, 2, 3}, {2}, {3}}, [][]int{{1, 2, 3}, {2}, {3}}},
		{[][]int{rowFrom(60, 40)}, columnFrom(60, 40)},
		{columnFrom(1, 40), [][]int{rowFrom(1, 40)}},
	} {
		if b, err := Turned(c.a); err != api.OK || !sameRows(b, c.want) {
			t.Error(c.a, b, err, c.want)
		}
	}
	for _, a := range [][][]int{
		{{1, 1}}, {{1, 1, 2}, {2, 3}}, {{1, 2, 2}}, {{1, 2}, {3, 3}}, {slices.Repeat([]int{99}, 40)}, {{1, 2}, {3, 4}, {5, 5}},
	} {
		if b, err := Turned(a); b != nil || err != api.ErrShape {
			t.Error(a, b, err)
		}
	}
}

// TestTurnedOfAll: box by box, and turned twice it is as it was.
func TestTurnedOfAll(t *testing.T) {
	eachTableau(func(a [][]int) {
		same := false
		for _, row := range a {
			for j := range row {
				same = same || j > 0 && row[j] == row[j-1]
			}
		}
		b, err := Turned(a)
		if same {
			if b != nil || err != api.ErrShape {
				t.Fatal(a, b, err)
			}
			return
		}
		if err != api.OK || !isTableau(b) {
			t.Fatal(a, b, err)
		}
		for i, row := range a {
			for j, letter := range row {
				if b[j][i] != letter {
					t.Fatal(a, b)
				}
			}
		}
		if back, err := Turned(b); err != api.OK || !sameRows(back, a) {
			t.Fatal(a, b, back, err)
		}
	})
}
