package paths

import (
	"math"
	"slices"
	"testing"

	"ferrers/api"
)

// at is a short way to write points: two numbers each.
func at(numbers ...int) []api.Point {
	points := []api.Point{}
	for i := 0; i+1 < len(numbers); i += 2 {
		points = append(points, api.Point{X: numbers[i], Y: numbers[i+1]})
	}
	return points
}

// gridOf is the one with so many columns and rows, barred where the numbers say.
func gridOf(w, h int, numbers ...int) api.Grid {
	return api.Grid{W: w, H: h, Barred: at(numbers...)}
}

// pointsOf lists all points of a grid, those that are barred included.
func pointsOf(g api.Grid) []api.Point {
	var points []api.Point
	for x := range g.W {
		for y := range g.H {
			points = append(points, api.Point{X: x, Y: y})
		}
	}
	return points
}

// eachGrid hands on all grids of up to so many columns and rows, with each choice of points that are barred.
func eachGrid(side int, do func(g api.Grid)) {
	for w := 1; w <= side; w++ {
		for h := 1; h <= side; h++ {
			points := pointsOf(api.Grid{W: w, H: h})
			for choice := range 1 << len(points) {
				g := api.Grid{W: w, H: h}
				for i, p := range points {
					if choice>>i&1 == 1 {
						g.Barred = append(g.Barred, p)
					}
				}
				do(g)
			}
		}
	}
}

// listed are all paths from a to b as texts, in order: all that goes right and up from a and stays on the grid
// is gone through, and what comes to b is kept.
func listed(g api.Grid, a, b api.Point) []string {
	var list []string
	var walk func(p api.Point, text string)
	walk = func(p api.Point, text string) {
		if p.X >= g.W || p.Y >= g.H || slices.Contains(g.Barred, p) {
			return
		}
		if p == b {
			list = append(list, text)
		}
		walk(api.Point{X: p.X + 1, Y: p.Y}, text+"R")
		walk(api.Point{X: p.X, Y: p.Y + 1}, text+"U")
	}
	walk(a, "")
	return list
}

// through lists the points of a path from a on.
func through(a api.Point, text string) []api.Point {
	points := []api.Point{a}
	for _, step := range text {
		if step == 'R' {
			a.X++
		} else {
			a.Y++
		}
		points = append(points, a)
	}
	return points
}

// badGrids are none.
func badGrids() []api.Grid {
	return []api.Grid{
		{}, gridOf(0, 1), gridOf(1, 0), gridOf(0, 8), gridOf(8, 0), gridOf(-1, 1), gridOf(1, -1), gridOf(-1, -1),
		gridOf(9, 1), gridOf(1, 9), gridOf(9, 9), gridOf(8, 9), gridOf(9, 8),
		gridOf(math.MaxInt, 1), gridOf(1, math.MinInt), gridOf(math.MinInt, math.MaxInt),
		gridOf(1, 1, 1, 0), gridOf(1, 1, 0, 1), gridOf(1, 1, -1, 0), gridOf(1, 1, 0, -1),
		gridOf(3, 2, 2, 2), gridOf(3, 2, 3, 1), gridOf(2, 3, 2, 2), gridOf(2, 3, 1, 3),
		gridOf(8, 8, 8, 0), gridOf(8, 8, 0, 8), gridOf(8, 8, 7, 7, -1, 7),
		gridOf(8, 8, 0, 0, math.MaxInt, 0), gridOf(8, 8, 0, math.MinInt),
		gridOf(3, 3, 1, 1, 1, 1), gridOf(3, 3, 1, 1, 0, 2, 1, 1), gridOf(3, 3, 0, 0, 2, 2, 2, 2), gridOf(8, 8, 7, 7, 7, 7),
		gridOf(0, 0, 0, 0), gridOf(9, 9, 8, 8), gridOf(1, 9, 0, 0),
		{W: 8, H: 8, Barred: append(pointsOf(gridOf(8, 8)), api.Point{})},
	}
}

func TestCheck(t *testing.T) {
	for w := 1; w <= 8; w++ {
		for h := 1; h <= 8; h++ {
			points := pointsOf(gridOf(w, h))
			back := slices.Clone(points)
			slices.Reverse(back)
			for _, barred := range [][]api.Point{nil, {}, points[:1], points[len(points)-1:], points, back} {
				if err := Check(api.Grid{W: w, H: h, Barred: barred}); err != api.OK {
					t.Error(w, h, barred, err)
				}
			}
		}
	}
	for _, g := range badGrids() {
		if err := Check(g); err != api.ErrArg {
			t.Error(g, err)
		}
	}
}

func TestCount(t *testing.T) {
	for _, c := range []struct {
		g    api.Grid
		a, b []api.Point
		want int
	}{
		{gridOf(1, 1), at(0, 0), at(0, 0), 1},
		{gridOf(1, 1, 0, 0), at(0, 0), at(0, 0), 0},
		{gridOf(2, 2), at(0, 0), at(1, 1), 2},
		{gridOf(2, 2), at(0, 0), at(0, 1), 1},
		{gridOf(2, 2), at(1, 1), at(0, 0), 0},
		{gridOf(2, 2), at(0, 1), at(1, 0), 0},
		{gridOf(2, 2), at(1, 0), at(0, 1), 0},
		{gridOf(2, 2, 1, 0), at(0, 0), at(1, 1), 1},
		{gridOf(2, 2, 0, 1, 1, 0), at(0, 0), at(1, 1), 0},
		{gridOf(2, 2, 0, 0), at(0, 0), at(1, 1), 0},
		{gridOf(2, 2, 1, 1), at(0, 0), at(1, 1), 0},
		{gridOf(2, 2, 1, 1), at(1, 1), at(1, 1), 0},
		{gridOf(3, 3), at(0, 0), at(2, 2), 6},
		{gridOf(3, 3, 1, 1), at(0, 0), at(2, 2), 2},
		{gridOf(4, 2), at(0, 0), at(3, 1), 4},
		{gridOf(4, 3), at(1, 0), at(3, 2), 6},
		{gridOf(8, 1), at(0, 0), at(7, 0), 1},
		{gridOf(8, 1, 4, 0), at(0, 0), at(7, 0), 0},
		{gridOf(8, 1, 4, 0), at(5, 0), at(7, 0), 1},
		{gridOf(1, 8), at(0, 2), at(0, 7), 1},
		{gridOf(8, 8), at(0, 0), at(7, 7), 3432},
		{gridOf(8, 8), at(3, 3), at(3, 3), 1},
		{gridOf(8, 8, 3, 3), at(0, 0), at(7, 7), 3432 - 20*70},
		{gridOf(8, 8, 0, 7, 7, 0), at(0, 0), at(7, 7), 3430},
	} {
		if n, err := Count(c.g, c.a[0], c.b[0]); err != api.OK || n != c.want {
			t.Error(c.g, c.a, c.b, n, err, c.want)
		}
	}
}

func countOf(t *testing.T, g api.Grid, a, b api.Point) int {
	t.Helper()
	n, err := Count(g, a, b)
	if err != api.OK {
		t.Fatal(g, a, b, err)
	}
	return n
}

// TestWhatIsCountedIsListed: all pairs of points of all grids of up to 3 columns and rows.
func TestWhatIsCountedIsListed(t *testing.T) {
	eachGrid(3, func(g api.Grid) {
		for _, a := range pointsOf(g) {
			for _, b := range pointsOf(g) {
				if n, want := countOf(t, g, a, b), len(listed(g, a, b)); n != want {
					t.Fatal(g, a, b, n, want)
				}
			}
		}
	})
}

// chosen tells how many choices of k things out of n there are.
func chosen(n, k int) int {
	count := 1
	for i := range k {
		count = count * (n - i) / (i + 1)
	}
	return count
}

// TestCountOfOpenGrids: of so many steps some are to the right, and it makes no difference how far the grid goes on.
func TestCountOfOpenGrids(t *testing.T) {
	for _, a := range pointsOf(gridOf(8, 8)) {
		for _, b := range pointsOf(gridOf(8, 8)) {
			want, right, up := 0, b.X-a.X, b.Y-a.Y
			if right >= 0 && up >= 0 {
				want = chosen(right+up, up)
			}
			small := gridOf(max(a.X, b.X)+1, max(a.Y, b.Y)+1)
			if n, m := countOf(t, gridOf(8, 8), a, b), countOf(t, small, a, b); n != want || m != want {
				t.Fatal(a, b, n, m, want)
			}
		}
	}
}

// scattered bars points of a grid of 8 columns and rows by a rule that looks like none.
func scattered(seed, many int) []api.Point {
	points := pointsOf(gridOf(8, 8))
	for i := range points {
		seed = (seed*1103515245 + 12345) % (1 << 31)
		other := i + seed>>8%(len(points)-i)
		points[i], points[other] = points[other], points[i]
	}
	return points[:many]
}

// TestCountIsTheSameMirrored: right and up may change places, and so may the ends, if all is turned round.
// What is barred may be told in any order.
func TestCountIsTheSameMirrored(t *testing.T) {
	more := 0
	for seed := range 60 {
		barred := scattered(seed, seed/3)
		var mirrored, turned []api.Point
		for _, p := range barred {
			mirrored = append(mirrored, api.Point{X: p.Y, Y: p.X})
			turned = append([]api.Point{{X: 7 - p.X, Y: 7 - p.Y}}, turned...)
		}
		for _, a := range pointsOf(gridOf(8, 8)) {
			for _, b := range pointsOf(gridOf(8, 8)) {
				n := countOf(t, api.Grid{W: 8, H: 8, Barred: barred}, a, b)
				m := countOf(t, api.Grid{W: 8, H: 8, Barred: mirrored}, api.Point{X: a.Y, Y: a.X}, api.Point{X: b.Y, Y: b.X})
				back := countOf(t, api.Grid{W: 8, H: 8, Barred: turned}, api.Point{X: 7 - b.X, Y: 7 - b.Y}, api.Point{X: 7 - a.X, Y: 7 - a.Y})
				if n != m || n != back {
					t.Fatal(barred, a, b, n, m, back)
				}
				if n > 1 {
					more++
				}
			}
		}
	}
	if more < 1000 {
		t.Error("few paths were counted:", more)
	}
}

// outside are no points of a grid of 3 columns and 2 rows.
func outside() []api.Point {
	return at(3, 0, 0, 2, -1, 0, 0, -1, 3, 2, -1, -1, 1, 2, 3, 1, 8, 8, math.MaxInt, 0, 0, math.MaxInt, math.MinInt, 0, 0, math.MinInt)
}

func TestErrorsOfCount(t *testing.T) {
	check := func(g api.Grid, a, b api.Point) {
		t.Helper()
		if n, err := Count(g, a, b); n != 0 || err != api.ErrArg {
			t.Error(g, a, b, n, err)
		}
	}
	for _, g := range badGrids() {
		check(g, api.Point{}, api.Point{})
		check(g, api.Point{X: -1}, api.Point{Y: 9})
	}
	for _, barred := range [][]api.Point{nil, at(0, 0), at(2, 1), pointsOf(gridOf(3, 2))} {
		g := api.Grid{W: 3, H: 2, Barred: barred}
		for _, p := range outside() {
			check(g, p, api.Point{X: 2, Y: 1})
			check(g, api.Point{}, p)
			check(g, p, p)
		}
	}
}
