package paths

import (
	"math/rand"
	"slices"
	"strings"
	"testing"

	"ferrers/api"
)

// entered lists, in the order in which they are entered, what lies behind each point that looking enters:
// the paths so far, the last one begun. A path that is begun never goes further right or up than its end,
// or than its start, and never where a path ahead of it went.
func entered(g api.Grid, starts, ends []api.Point) []string {
	var list []string
	for i, start := range starts {
		corner := api.Point{X: max(start.X, ends[i].X), Y: max(start.Y, ends[i].Y)}
		for _, family := range familiesOf(g, starts[:i], ends[:i]) {
			left := g
			for j, text := range family {
				left = fewer(left, through(starts[j], text))
			}
			for _, p := range pointsOf(gridOf(corner.X+1, corner.Y+1)) {
				for _, text := range listed(left, start, p) {
					list = append(list, strings.Join(append(slices.Clone(family), text), ","))
				}
			}
		}
	}
	slices.Sort(list)
	return list
}

// stepsOf tells how many steps looking takes, and what it found first, if it is to stop there.
func stepsOf(g api.Grid, starts, ends []api.Point, stop bool) (steps int, family []string) {
	closed, _ := barred(g)
	l := look{starts: starts, ends: ends, closed: closed, texts: make([][]byte, len(starts))}
	l.found = func(texts [][]byte) bool {
		for _, text := range texts {
			family = append(family, string(text))
		}
		return !stop
	}
	l.begin(0)
	return l.steps, family
}

// towards lets each end lie right of its start and above it.
func towards(starts, ends []api.Point) {
	for i, start := range starts {
		starts[i] = api.Point{X: min(start.X, ends[i].X), Y: min(start.Y, ends[i].Y)}
		ends[i] = api.Point{X: max(start.X, ends[i].X), Y: max(start.Y, ends[i].Y)}
	}
}

// TestStepsOfLooking: as many as there are points to be entered, and till the first family those ahead of its last one.
func TestStepsOfLooking(t *testing.T) {
	source := rand.New(rand.NewSource(13))
	most := 0
	for round := range 3000 {
		g := gridOf(1+source.Intn(5), 1+source.Intn(5))
		for _, p := range drawn(source, g, source.Intn(4)) {
			if !slices.Contains(g.Barred, p) {
				g.Barred = append(g.Barred, p)
			}
		}
		k := round % 4
		starts, ends := drawn(source, g, k), drawn(source, g, k)
		if round%3 > 0 {
			towards(starts, ends)
		}
		list := entered(g, starts, ends)
		if steps, _ := stepsOf(g, starts, ends, false); steps != len(list) {
			t.Fatal(g, starts, ends, steps, len(list))
		}
		want := len(list)
		steps, family := stepsOf(g, starts, ends, true)
		if family != nil {
			want = slices.Index(list, strings.Join(family, ",")) + 1
		}
		if steps != want {
			t.Fatal(g, starts, ends, steps, want)
		}
		most = max(most, len(list))
	}
	if most < 200 {
		t.Error("few steps were taken:", most)
	}
}

// reckoned tells how many steps looking takes, without taking them: for each family of the paths ahead of it
// a path enters as many points as it has beginnings.
func reckoned(t *testing.T, g api.Grid, starts, ends []api.Point) int {
	t.Helper()
	sum := 0
	corner := api.Point{X: max(starts[0].X, ends[0].X), Y: max(starts[0].Y, ends[0].Y)}
	for _, p := range pointsOf(gridOf(corner.X+1, corner.Y+1)) {
		sum += countOf(t, g, starts[0], p)
	}
	if len(starts) == 1 {
		return sum
	}
	for _, text := range listed(g, starts[0], ends[0]) {
		sum += reckoned(t, fewer(g, through(starts[0], text)), starts[1:], ends[1:])
	}
	return sum
}

// TestMostSteps: the first path goes along the upper edge, and makes it exactly as many steps as may be, or one more.
func TestMostSteps(t *testing.T) {
	for _, c := range []struct {
		starts, ends []api.Point
		steps        int
		apart        int
		err          api.Errno
	}{
		{at(0, 7, 0, 2, 2, 0, 0, 0), at(5, 7, 4, 6, 7, 5, 7, 6), 999999, 152712, api.OK},
		{at(0, 7, 0, 2, 2, 0, 0, 0), at(6, 7, 4, 6, 7, 5, 7, 6), 1000000, 152712, api.OK},
		{at(0, 7, 0, 2, 2, 0, 0, 0), at(7, 7, 4, 6, 7, 5, 7, 6), 1000001, 0, api.ErrLarge},
	} {
		g := gridOf(8, 8, 6, 2)
		if steps := reckoned(t, g, c.starts, c.ends); steps != c.steps {
			t.Error(c.ends, steps, c.steps)
		}
		if n, err := Apart(g, c.starts, c.ends, inOrder(4)); err != c.err || n != c.apart {
			t.Error(c.ends, n, err, c.apart)
		}
		// The ends may be told in another order, and the way leads to the same ones.
		if n, err := Apart(g, c.starts, led(c.ends, []int{3, 2, 0, 1}), []int{2, 3, 1, 0}); err != c.err || n != c.apart {
			t.Error(c.ends, n, err, c.apart)
		}
		// The first family is found long before all are looked at.
		if list, err := First(g, c.starts, c.ends); err != api.OK || len(list) != 4 {
			t.Error(c.ends, list, err)
		}
	}
}

// TestMostStepsOfNone: that there is none is told only if so few steps tell it.
func TestMostStepsOfNone(t *testing.T) {
	for _, c := range []struct {
		g            api.Grid
		starts, ends []api.Point
		steps        int
		err          api.Errno
	}{
		{gridOf(8, 8, 0, 5, 6, 0), at(0, 1, 3, 0, 1, 0), at(5, 6, 7, 6, 5, 6), 999976, api.ErrNone},
		{gridOf(8, 8, 0, 5, 6, 0), at(0, 7, 0, 1, 3, 0, 1, 0), at(7, 7, 5, 6, 7, 6, 5, 6), 999984, api.ErrNone},
		{gridOf(8, 8, 2, 0), at(3, 0, 1, 0, 0, 3), at(7, 3, 7, 6, 7, 6), 1000001, api.ErrLarge},
		{gridOf(8, 8, 0, 5), at(0, 1, 0, 0, 1, 1), at(4, 6, 7, 6, 7, 6), 1000031, api.ErrLarge},
	} {
		if steps := reckoned(t, c.g, c.starts, c.ends); steps != c.steps {
			t.Error(c.starts, c.ends, steps, c.steps)
		}
		if list, err := First(c.g, c.starts, c.ends); list != nil || err != c.err {
			t.Error(c.starts, c.ends, list, err, c.err)
		}
		want := api.OK
		if c.err == api.ErrLarge {
			want = api.ErrLarge
		}
		if n, err := Apart(c.g, c.starts, c.ends, inOrder(len(c.starts))); n != 0 || err != want {
			t.Error(c.starts, c.ends, n, err, want)
		}
	}
}

// TestFirstThatIsFoundLate: the first path must give way to the last one, so much is looked at ahead of it.
func TestFirstThatIsFoundLate(t *testing.T) {
	starts, ends := at(1, 0, 0, 1, 2, 1), at(7, 6, 5, 6, 7, 5)
	steps, want := stepsOf(gridOf(8, 7, 0, 0), starts, ends, true)
	if steps != 928468 {
		t.Error(steps, want)
	}
	if list, err := First(gridOf(8, 7, 0, 0), starts, ends); err != api.OK || len(list) != 3 || !slices.Equal(list, want) {
		t.Error(list, err, want)
	}
	// There are families all the same, but they come too late.
	starts, ends = at(1, 0, 0, 1, 2, 1), at(7, 7, 5, 7, 7, 6)
	if text, err := Determinant(gridOf(8, 8), starts, ends); err != api.OK || text == "0" {
		t.Error(text, err)
	}
	if list, err := First(gridOf(8, 8), starts, ends); list != nil || err != api.ErrLarge {
		t.Error(list, err)
	}
	// In another order of the paths the first one is found soon.
	order := []int{2, 0, 1}
	if list, err := First(gridOf(8, 8), led(starts, order), led(ends, order)); err != api.OK || len(list) != 3 {
		t.Error(list, err)
	}
	if n, err := Apart(gridOf(8, 8), starts, ends, inOrder(3)); n != 0 || err != api.ErrLarge {
		t.Error(n, err)
	}
}

// TestStepsThatLeadNowhere: a path goes up as far as its end lies, also if the end lies to the left, and this is counted.
func TestStepsThatLeadNowhere(t *testing.T) {
	for _, c := range []struct {
		starts, ends []api.Point
		steps        int
	}{
		{at(5, 0), at(2, 7), 8},
		{at(0, 5), at(7, 2), 8},
		{at(5, 5), at(2, 2), 1},
		{at(5, 5), at(5, 5), 1},
		{at(3, 3, 3, 3), at(3, 3, 4, 4), 1},
		{at(0, 0), at(1, 1), 5},
		{at(0, 0), at(7, 7), 12869},
	} {
		if steps, _ := stepsOf(gridOf(8, 8), c.starts, c.ends, false); steps != c.steps {
			t.Error(c.starts, c.ends, steps, c.steps)
		}
	}
}
