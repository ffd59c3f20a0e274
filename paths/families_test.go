package paths

import (
	"math"
	"math/big"
	"math/rand"
	"slices"
	"strconv"
	"testing"

	"ferrers/api"
)

// ways lists all ways from so many starts to as many ends, with their signs.
func ways(k int) (list [][]int, signs []int) {
	var put func(way []int, sign int)
	put = func(way []int, sign int) {
		if len(way) == k {
			list, signs = append(list, slices.Clone(way)), append(signs, sign)
			return
		}
		for end := range k {
			if slices.Contains(way, end) {
				continue
			}
			turned := sign
			for _, other := range way {
				if other > end {
					turned = -turned
				}
			}
			put(append(slices.Clone(way), end), turned)
		}
	}
	put(nil, 1)
	return list, signs
}

// led lists the ends in the order of a way.
func led(ends []api.Point, way []int) []api.Point {
	list := []api.Point{}
	for _, end := range way {
		list = append(list, ends[end])
	}
	return list
}

// fewer is the grid with more points barred.
func fewer(g api.Grid, points []api.Point) api.Grid {
	g.Barred = slices.Concat(g.Barred, points)
	return g
}

// familiesOf lists all families from each start to the end of the same number, in order: all choices of paths,
// of which those are kept that never meet.
func familiesOf(g api.Grid, starts, ends []api.Point) [][]string {
	list := [][]string{{}}
	for i, start := range starts {
		var longer [][]string
		for _, family := range list {
			for _, text := range listed(g, start, ends[i]) {
				longer = append(longer, append(slices.Clone(family), text))
			}
		}
		list = longer
	}
	return slices.DeleteFunc(list, func(family []string) bool { return meet(starts, family) })
}

// meet tells whether two paths have a point together.
func meet(starts []api.Point, family []string) bool {
	for i, text := range family {
		for j := range i {
			other := through(starts[j], family[j])
			if slices.ContainsFunc(through(starts[i], text), func(p api.Point) bool { return slices.Contains(other, p) }) {
				return true
			}
		}
	}
	return false
}

// families of which it is known what they are.
var known = []struct {
	name         string
	g            api.Grid
	starts, ends []api.Point
	determinant  string
	way          []int
	apart        int
	first        []string
}{
	{"none", gridOf(1, 1), nil, nil, "1", nil, 1, []string{}},
	{"none, all barred", gridOf(1, 1, 0, 0), nil, nil, "1", []int{}, 1, []string{}},
	{"no step", gridOf(1, 1), at(0, 0), at(0, 0), "1", []int{0}, 1, []string{""}},
	{"one step", gridOf(1, 2), at(0, 0), at(0, 1), "1", []int{0}, 1, []string{"U"}},
	{"right is first", gridOf(2, 2), at(0, 0), at(1, 1), "2", []int{0}, 2, []string{"RU"}},
	{"right is barred", gridOf(2, 2, 1, 0), at(0, 0), at(1, 1), "1", []int{0}, 1, []string{"UR"}},
	{"two", gridOf(3, 3), at(0, 1, 1, 0), at(1, 2, 2, 1), "3", []int{0, 1}, 3, []string{"RU", "RU"}},
	{"two, crossed", gridOf(3, 3), at(0, 1, 1, 0), at(2, 1, 1, 2), "-3", []int{1, 0}, 3, nil},
	{"two, the other way", gridOf(3, 3), at(0, 1, 1, 0), at(1, 2, 2, 1), "3", []int{1, 0}, 0, []string{"RU", "RU"}},
	{"points alone", gridOf(2, 2), at(0, 0, 1, 1, 1, 0, 0, 1), at(0, 0, 1, 1, 1, 0, 0, 1), "1", []int{0, 1, 2, 3}, 1, []string{"", "", "", ""}},
	{"four rows", gridOf(8, 4), at(0, 0, 0, 1, 0, 2, 0, 3), at(7, 0, 7, 1, 7, 2, 7, 3), "1", []int{0, 1, 2, 3}, 1, slices.Repeat([]string{"RRRRRRR"}, 4)},
	{"the second is in the way", gridOf(3, 3), at(0, 0, 1, 0), at(2, 2, 2, 1), "3", []int{0, 1}, 3, []string{"URUR", "RU"}},
	{"the later one gives way", gridOf(3, 3), at(0, 0, 0, 1), at(2, 1, 1, 2), "3", []int{0, 1}, 3, []string{"RRU", "RU"}},
	{"stretched", gridOf(5, 4), at(0, 0, 2, 0), at(2, 3, 4, 3), "65", []int{0, 1}, 65, []string{"RURUU", "RRUUU"}},
}

func TestKnownFamilies(t *testing.T) {
	for _, c := range known {
		if text, err := Determinant(c.g, c.starts, c.ends); err != api.OK || text != c.determinant {
			t.Error(c.name, text, err)
		}
		if n, err := Apart(c.g, c.starts, c.ends, c.way); err != api.OK || n != c.apart {
			t.Error(c.name, n, err)
		}
		want := api.OK
		if c.first == nil {
			want = api.ErrNone
		}
		if list, err := First(c.g, c.starts, c.ends); err != want || !slices.Equal(list, c.first) {
			t.Error(c.name, list, err)
		}
	}
}

// held holds all three calls against lists of all families.
func held(t *testing.T, g api.Grid, starts, ends []api.Point) {
	t.Helper()
	list, signs := ways(len(starts))
	sum := 0
	for i, way := range list {
		n, err := Apart(g, starts, ends, way)
		if want := len(familiesOf(g, starts, led(ends, way))); err != api.OK || n != want {
			t.Fatal(g, starts, ends, way, n, err, want)
		}
		sum += signs[i] * n
	}
	if text, err := Determinant(g, starts, ends); err != api.OK || text != strconv.Itoa(sum) {
		t.Fatal(g, starts, ends, text, err, sum)
	}
	first, err := First(g, starts, ends)
	all := familiesOf(g, starts, ends)
	if len(all) == 0 {
		if first != nil || err != api.ErrNone {
			t.Fatal(g, starts, ends, first, err)
		}
		return
	}
	if want := slices.MinFunc(all, slices.Compare[[]string]); err != api.OK || !slices.Equal(first, want) {
		t.Fatal(g, starts, ends, first, err, want)
	}
}

// TestFamiliesOfTwoPaths: all pairs of starts and of ends, the same ones and those that are barred included.
func TestFamiliesOfTwoPaths(t *testing.T) {
	for _, g := range []api.Grid{gridOf(3, 3), gridOf(3, 3, 1, 1), gridOf(3, 2, 0, 0), gridOf(2, 3, 1, 1), gridOf(3, 3, 2, 0, 0, 2), gridOf(3, 3, 2, 2, 1, 0)} {
		points := pointsOf(g)
		for i := range len(points) * len(points) {
			starts := []api.Point{points[i/len(points)], points[i%len(points)]}
			for j := range len(points) * len(points) {
				held(t, g, starts, []api.Point{points[j/len(points)], points[j%len(points)]})
			}
		}
	}
}

// drawn are so many points of the grid, by a source that always draws the same.
func drawn(source *rand.Rand, g api.Grid, many int) []api.Point {
	points := []api.Point{}
	for range many {
		points = append(points, api.Point{X: source.Intn(g.W), Y: source.Intn(g.H)})
	}
	return points
}

// TestFamiliesOfDrawnPoints: up to four paths between points that lie anywhere.
func TestFamiliesOfDrawnPoints(t *testing.T) {
	source := rand.New(rand.NewSource(10))
	for round := range 4000 {
		g := gridOf(1+source.Intn(4), 1+source.Intn(4))
		for _, p := range drawn(source, g, source.Intn(3)) {
			if !slices.Contains(g.Barred, p) {
				g.Barred = append(g.Barred, p)
			}
		}
		k := round % 5
		held(t, g, drawn(source, g, k), drawn(source, g, k))
	}
}

// TestFamiliesSideBySide: starts at the left and below, ends at the right and above, so that there are many families.
func TestFamiliesSideBySide(t *testing.T) {
	source := rand.New(rand.NewSource(11))
	most := 0
	for round := range 60 {
		g := gridOf(6, 6)
		for range round % 4 {
			if p := drawn(source, g, 1)[0]; !slices.Contains(g.Barred, p) {
				g.Barred = append(g.Barred, p)
			}
		}
		k := 1 + round%3
		starts, ends := drawn(source, gridOf(3, 3), k), drawn(source, gridOf(3, 3), k)
		for i := range ends {
			ends[i].X, ends[i].Y = 5-ends[i].X, 5-ends[i].Y
		}
		list, signs := ways(k)
		sum := 0
		for i, way := range list {
			n, err := Apart(g, starts, ends, way)
			if err != api.OK {
				t.Fatal(g, starts, ends, way, err)
			}
			most, sum = max(most, n), sum+signs[i]*n
		}
		if text, err := Determinant(g, starts, ends); err != api.OK || text != strconv.Itoa(sum) {
			t.Fatal(g, starts, ends, text, err, sum)
		}
	}
	if most < 500 {
		t.Error("few families were counted:", most)
	}
}

// byOrders is the sum over all orders of the ends.
func byOrders(rows [][]int) *big.Int {
	list, signs := ways(len(rows))
	sum := new(big.Int)
	for k, way := range list {
		product := big.NewInt(int64(signs[k]))
		for i, j := range way {
			product.Mul(product, big.NewInt(int64(rows[i][j])))
		}
		sum.Add(sum, product)
	}
	return sum
}

// TestDeterminantOfGreatNumbers: as far as the grid goes, where nobody would look for families one by one.
func TestDeterminantOfGreatNumbers(t *testing.T) {
	source := rand.New(rand.NewSource(12))
	longest := 0
	for round := range 3000 {
		g := api.Grid{W: 8, H: 8, Barred: scattered(round, round%4)}
		k := round % 5
		starts, ends := drawn(source, gridOf(4, 4), k), drawn(source, gridOf(4, 4), k)
		rows := make([][]int, k)
		for i := range ends {
			ends[i].X, ends[i].Y = 7-ends[i].X, 7-ends[i].Y
		}
		for i, start := range starts {
			for _, end := range ends {
				rows[i] = append(rows[i], countOf(t, g, start, end))
			}
		}
		text, err := Determinant(g, starts, ends)
		if want := byOrders(rows).String(); err != api.OK || text != want {
			t.Fatal(g, starts, ends, text, err, want)
		}
		longest = max(longest, len(text))
	}
	if longest < 7 {
		t.Error("all determinants were small:", longest)
	}
}

// corners are four starts and four ends of an open grid of 8 columns and rows, between which the paths are many.
func corners() (starts, ends []api.Point) {
	return at(0, 3, 0, 2, 1, 1, 2, 0), at(4, 7, 5, 6, 6, 5, 7, 4)
}

func TestDeterminantChangesItsSign(t *testing.T) {
	starts, ends := corners()
	whole, _ := Determinant(gridOf(8, 8), starts, ends)
	if whole[0] == '-' || whole == "0" {
		t.Fatal(whole)
	}
	starts[1], starts[3] = starts[3], starts[1]
	if text, err := Determinant(gridOf(8, 8), starts, ends); err != api.OK || text != "-"+whole {
		t.Error(text, err)
	}
	ends[0], ends[1] = ends[1], ends[0]
	if text, err := Determinant(gridOf(8, 8), starts, ends); err != api.OK || text != whole {
		t.Error(text, err)
	}
	starts[2] = starts[0]
	if text, err := Determinant(gridOf(8, 8), starts, ends); err != api.OK || text != "0" {
		t.Error(text, err)
	}
}

// checkAll hands the three calls what none of them can work with.
func checkAll(t *testing.T, g api.Grid, starts, ends []api.Point, way []int, want api.Errno) {
	t.Helper()
	if text, err := Determinant(g, starts, ends); text != "" || err != want {
		t.Error("Determinant", g, len(starts), len(ends), text, err, want)
	}
	if n, err := Apart(g, starts, ends, way); n != 0 || err != want {
		t.Error("Apart", g, len(starts), len(ends), way, n, err, want)
	}
	if list, err := First(g, starts, ends); list != nil || err != want {
		t.Error("First", g, len(starts), len(ends), list, err, want)
	}
}

// badWays are none for two paths.
func badWays() [][]int {
	return [][]int{{0, 0}, {1, 1}, {0, 2}, {2, 0}, {1, 2}, {-1, 0}, {0, -1}, {1, -1}, {3, 4}, {math.MaxInt, 0}, {0, math.MinInt}}
}

// shortWays have not two numbers.
func shortWays() [][]int {
	return [][]int{nil, {}, {0}, {1}, {0, 1, 2}, {0, 1, 1}, {-1}, {7, 7, 7}, {0, 1, 2, 3, 4}}
}

// TestErrorsOfFamilies: each error, with those that are told behind it.
func TestErrorsOfFamilies(t *testing.T) {
	g := gridOf(3, 2)
	one, two, five := at(0, 0), at(0, 0, 1, 1), slices.Repeat(at(2, 1), 5)
	everyWay := append(append(badWays(), shortWays()...), []int{0, 1})
	for _, way := range everyWay {
		for _, bad := range badGrids() {
			checkAll(t, bad, two, two, way, api.ErrArg)
			checkAll(t, bad, two, one, way, api.ErrArg)
			checkAll(t, bad, five, five, way, api.ErrArg)
			checkAll(t, bad, nil, nil, way, api.ErrArg)
		}
		for _, p := range outside() {
			for _, other := range [][]api.Point{nil, one, two, five} {
				checkAll(t, g, []api.Point{p}, other, way, api.ErrArg)
				checkAll(t, g, other, []api.Point{p}, way, api.ErrArg)
				checkAll(t, g, append(at(1, 1), p), other, way, api.ErrArg)
				checkAll(t, g, other, append(at(1, 1, 0, 1, 2, 0, 0, 0), p), way, api.ErrArg)
			}
		}
		for _, c := range [][2][]api.Point{{nil, one}, {one, nil}, {one, two}, {two, one}, {five, two}, {two, five}, {five, nil}, {five, five[:4]}, {five[:4], five}} {
			checkAll(t, g, c[0], c[1], way, api.ErrShape)
		}
		checkAll(t, g, five, five, way, api.ErrLarge)
		checkAll(t, g, append(five, two...), append(two, five...), way, api.ErrLarge)
	}
}

func TestErrorsOfWays(t *testing.T) {
	two := at(0, 0, 1, 1)
	for _, g := range []api.Grid{gridOf(3, 2), gridOf(2, 2, 0, 0), gridOf(8, 8, 0, 0, 1, 1)} {
		for _, way := range shortWays() {
			if n, err := Apart(g, two, two, way); n != 0 || err != api.ErrShape {
				t.Error(way, n, err)
			}
		}
		for _, way := range badWays() {
			if n, err := Apart(g, two, two, way); n != 0 || err != api.ErrArg {
				t.Error(way, n, err)
			}
		}
		if n, err := Apart(g, nil, nil, []int{0}); n != 0 || err != api.ErrShape {
			t.Error(n, err)
		}
		if n, err := Apart(g, two[:1], two[:1], []int{1}); n != 0 || err != api.ErrArg {
			t.Error(n, err)
		}
	}
}
