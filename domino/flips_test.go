package domino

import (
	"math"
	"slices"
	"testing"

	"ferrers/api"
)

// turned tells by P36's words what comes of turning that block; the empty text, if it may not be turned.
func turned(tiling string, row, column int) string {
	lines := linesOf(tiling)
	if row < 0 || row+1 >= len(lines) || column < 0 || column+1 >= len(lines[0]) {
		return ""
	}
	upper, lower := lines[row][column:column+2], lines[row+1][column:column+2]
	switch string(upper) + string(lower) {
	case "lrlr":
		copy(upper, "uu")
		copy(lower, "dd")
	case "uudd":
		copy(upper, "lr")
		copy(lower, "lr")
	default:
		return ""
	}
	return textOf(lines)
}

func flipsOf(t *testing.T, tiling string) []api.Point {
	t.Helper()
	list, err := Flips(tiling)
	if err != api.OK {
		t.Fatal(tiling, err)
	}
	return list
}

func TestFlips(t *testing.T) {
	for _, c := range []struct {
		tiling string
		want   []api.Point
	}{
		{".", nil},
		{"lr", nil},
		{"u/d", nil},
		{"lr/lr", []api.Point{{}}},
		{"uu/dd", []api.Point{{}}},
		{"lru/lrd", []api.Point{{}}},
		{"ulr/dlr", []api.Point{{X: 1}}},
		{"uuu/ddd", []api.Point{{}, {X: 1}}},
		{"lr/lr/lr", []api.Point{{}, {Y: 1}}},
		{"u.u/d.d", nil},
		{"lr/../lr", nil},
		{"lr./.lr", nil},
		{"u./du/.d", nil},
		{"lru/u.d/dlr", nil},
		{".lr./lruu/lrdd/.lr.", []api.Point{{X: 0, Y: 1}, {X: 2, Y: 1}}},
		{"lrlr/lrlr", []api.Point{{}, {X: 2}}},
		{"lrlr/ulru/d..d", nil},
		{"....../....lr/....lr", []api.Point{{X: 4, Y: 1}}},
	} {
		if list := flipsOf(t, c.tiling); !slices.Equal(list, c.want) {
			t.Error(c, list)
		}
	}
	if list := flipsOf(t, full(8, 4, "lr")); len(list) != 28 || list[0] != (api.Point{}) || list[3] != (api.Point{X: 6}) || list[4] != (api.Point{Y: 1}) || list[27] != (api.Point{X: 6, Y: 6}) {
		t.Error(list)
	}
	for _, s := range badTilings() {
		if list, err := Flips(s); list != nil || err != api.ErrArg {
			t.Error(s, list, err)
		}
	}
}

// flipsHeld holds Flips and Flip of a tiling against P36's words, block by block, and turns back what was turned.
func flipsHeld(t *testing.T, tiling string) {
	t.Helper()
	var want []api.Point
	for row := -1; row <= 8; row++ {
		for column := -1; column <= 8; column++ {
			at := api.Point{X: column, Y: row}
			next := turned(tiling, row, column)
			s, err := Flip(tiling, at)
			if next == "" {
				if s != "" || err != api.ErrNone {
					t.Fatal(tiling, at, s, err)
				}
				continue
			}
			want = append(want, at)
			if s != next || err != api.OK || CheckTiling(s) != api.OK || boardOf(s) != boardOf(tiling) {
				t.Fatal(tiling, at, s, err, next)
			}
			if back, err := Flip(s, at); back != tiling || err != api.OK {
				t.Fatal(tiling, at, s, back, err)
			}
		}
	}
	if list := flipsOf(t, tiling); !slices.Equal(list, want) {
		t.Fatal(tiling, list, want)
	}
}

func TestFlipsOfAll(t *testing.T) {
	for _, sides := range [][2]int{{1, 5}, {5, 1}, {2, 2}, {2, 3}, {3, 2}, {3, 3}, {3, 4}, {4, 3}} {
		eachTiling(sides[0], sides[1], func(s string) { flipsHeld(t, s) })
	}
	for _, s := range append(randomTilings(), full(8, 4, "lr"), standing(1, 8), standing(4, 8)) {
		flipsHeld(t, s)
	}
	for _, s := range tilingsOf(full(4, 5, "#")) {
		flipsHeld(t, s)
	}
}

func TestFlip(t *testing.T) {
	for _, c := range []struct {
		tiling string
		at     api.Point
		want   string
		err    api.Errno
	}{
		{"lr/lr", api.Point{}, "uu/dd", api.OK},
		{"uu/dd", api.Point{}, "lr/lr", api.OK},
		{"lru/lrd", api.Point{}, "uuu/ddd", api.OK},
		{"lru/lrd", api.Point{X: 1}, "", api.ErrNone},
		{"lru/lrd", api.Point{Y: 1}, "", api.ErrNone},
		{"uuu/ddd", api.Point{X: 1}, "ulr/dlr", api.OK},
		{"uuu/ddd", api.Point{X: 2}, "", api.ErrNone},
		{"lr/lr/lr", api.Point{Y: 1}, "lr/uu/dd", api.OK},
		{"lr/lr/lr", api.Point{X: 1}, "", api.ErrNone},
		{"lr/lr/lr", api.Point{Y: 2}, "", api.ErrNone},
		{"....../....lr/....lr", api.Point{X: 4, Y: 1}, "....../....uu/....dd", api.OK},
		{"....../....lr/....lr", api.Point{X: 1, Y: 4}, "", api.ErrNone},
		{".", api.Point{}, "", api.ErrNone},
		{"l", api.Point{}, "", api.ErrArg},
	} {
		if s, err := Flip(c.tiling, c.at); err != c.err || s != c.want {
			t.Error(c, s, err)
		}
	}
}

// farNumbers are none of a row or a column.
func farNumbers() []int {
	return []int{-1, -2, -8, 8, 9, 64, 1 << 32, -1 << 32, math.MaxInt, math.MinInt, math.MaxInt - 1, math.MinInt + 1}
}

func TestErrorsOfFlip(t *testing.T) {
	points := []api.Point{{}, {X: 1, Y: 1}}
	for _, far := range farNumbers() {
		for _, near := range []int{0, 1, 7, far} {
			points = append(points, api.Point{X: far, Y: near}, api.Point{X: near, Y: far})
		}
	}
	for _, at := range points {
		for _, s := range badTilings() {
			if got, err := Flip(s, at); got != "" || err != api.ErrArg {
				t.Error(s, at, got, err)
			}
		}
	}
	for _, at := range points[2:] {
		for _, s := range []string{".", "lr/lr", "uu/dd", full(8, 4, "lr"), full(8, 8, ".")} {
			if got, err := Flip(s, at); got != "" || err != api.ErrNone {
				t.Error(s, at, got, err)
			}
		}
	}
}

// TestFlipsLeadEverywhere: where a board has no holes, each tiling comes of each by turning blocks (THURSTON).
func TestFlipsLeadEverywhere(t *testing.T) {
	for _, board := range []string{"##", "##/##", full(3, 6, "#"), full(4, 4, "#"), full(4, 6, "#"), full(5, 6, "#"), ".##./####/####/.##.", "..##../.####./######/######/.####./..##.."} {
		first, err := First(board)
		if err != api.OK {
			t.Fatal(board, err)
		}
		met := map[string]bool{first: true}
		for work := []string{first}; len(work) > 0; work = work[1:] {
			for _, at := range flipsOf(t, work[0]) {
				s, err := Flip(work[0], at)
				if err != api.OK {
					t.Fatal(work[0], at, err)
				}
				if !met[s] {
					met[s] = true
					work = append(work, s)
				}
			}
		}
		if n := countOf(t, board); n != int64(len(met)) {
			t.Error(board, n, len(met))
		}
	}
}
