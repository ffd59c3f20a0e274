package paths

import (
	"math"
	"runtime"
	"slices"
	"testing"

	"ferrers/api"
)

// input of any call: each takes of it what it needs.
type input struct {
	g            api.Grid
	starts, ends []api.Point
	way          []int
	text         string
	pairs        int
	rank         int64
}

// answer of any call.
type answer struct {
	number  int64
	text    string
	texts   []string
	numbers []int
	err     api.Errno
}

func (a answer) same(b answer) bool {
	return a.number == b.number && a.text == b.text && slices.Equal(a.texts, b.texts) && slices.Equal(a.numbers, b.numbers) && a.err == b.err
}

// clone keeps what was answered apart from what is scribbled over later.
func (a answer) clone() answer {
	a.texts, a.numbers = slices.Clone(a.texts), slices.Clone(a.numbers)
	return a
}

type call struct {
	name string
	do   func(in input) answer
}

// firstOf is a point of the list, or one that no grid has.
func firstOf(points []api.Point) api.Point {
	if len(points) == 0 {
		return api.Point{X: -1, Y: -1}
	}
	return points[0]
}

func calls() []call {
	return []call{
		{"Check", func(in input) answer {
			return answer{err: Check(in.g)}
		}},
		{"Count", func(in input) answer {
			n, err := Count(in.g, firstOf(in.starts), firstOf(in.ends))
			return answer{number: int64(n), err: err}
		}},
		{"Determinant", func(in input) answer {
			text, err := Determinant(in.g, in.starts, in.ends)
			return answer{text: text, err: err}
		}},
		{"Apart", func(in input) answer {
			n, err := Apart(in.g, in.starts, in.ends, in.way)
			return answer{number: int64(n), err: err}
		}},
		{"First", func(in input) answer {
			list, err := First(in.g, in.starts, in.ends)
			return answer{texts: list, err: err}
		}},
		{"Catalan", func(in input) answer {
			n, err := Catalan(in.pairs)
			return answer{number: n, err: err}
		}},
		{"Rank", func(in input) answer {
			n, err := Rank(in.text)
			return answer{number: n, err: err}
		}},
		{"Unrank", func(in input) answer {
			text, err := Unrank(in.pairs, in.rank)
			return answer{text: text, err: err}
		}},
		{"Turns", func(in input) answer {
			list, err := Turns(in.text)
			return answer{numbers: list, err: err}
		}},
	}
}

// inputs holds what each call can work with, and what it cannot.
func inputs() []input {
	grids := append(badGrids(), gridOf(1, 1), gridOf(2, 2), gridOf(3, 2), gridOf(3, 3), gridOf(3, 3, 1, 1), gridOf(8, 8), gridOf(8, 8, 3, 3, 4, 4), gridOf(1, 8), gridOf(8, 1, 4, 0))
	starts, ends := corners()
	ofPoints := [][2][]api.Point{
		{nil, nil}, {at(0, 0), at(0, 0)}, {at(0, 0), at(1, 1)}, {at(0, 1, 1, 0), at(1, 2, 2, 1)}, {at(0, 0, 0, 1), at(2, 0, 2, 1)},
		{at(0, 0, 0, 0), at(1, 1, 1, 1)}, {at(1, 1), at(0, 0)}, {at(0, 0), nil}, {nil, at(0, 0)}, {outside()[:1], at(0, 0)}, {at(0, 0, 1, 0), outside()[:2]},
		{starts, ends}, {slices.Repeat(at(0, 0), 5), slices.Repeat(at(0, 0), 5)}, {at(0, 7, 7, 0), at(7, 7, 7, 0)},
	}
	allWays := append(append(badWays(), shortWays()...), []int{0, 1}, []int{1, 0}, []int{0, 1, 2, 3})
	lines := append(texts(4), wideTexts()...)
	lines = append(lines, "", "(()", nested(30), flat(30), "(()((", "x", "(é)", "((((")
	pairs := []int{0, 1, 2, 3, 4, 30, 31, -1, math.MinInt, math.MaxInt}
	ranks := []int64{0, 1, 2, 5, 13, 14, -1, 3814986502092303, 3814986502092304, math.MinInt64, math.MaxInt64}
	var list []input
	for _, g := range grids {
		for _, points := range ofPoints {
			n := len(list)
			list = append(list, input{
				g, points[0], points[1], allWays[n%len(allWays)],
				lines[n%len(lines)], pairs[n%len(pairs)], ranks[n%len(ranks)],
			})
			list = append(list, input{g, points[0], points[1], inOrder(len(points[0])), lines[n/2%len(lines)], 4, int64(n % 14)})
		}
	}
	return list
}

// roomy lays a list at the front of a longer one, whose rest is spare room.
func roomy[T any](l []T, spare T) (list, whole []T) {
	whole = append(slices.Clone(l), spare, spare, spare, spare, spare)
	return whole[:len(l)], whole
}

// mark writes over a list and over its spare room.
func mark[T any](l []T, with T) {
	l = l[:cap(l)]
	for i := range l {
		l[i] = with
	}
}

// scribble writes over all lists of an answer.
func scribble(a answer) {
	mark(a.texts, "scribbled")
	mark(a.numbers, -99)
}

// TestInputsAreKeptApart: P2 of each call, and P1 in that each of them answers.
func TestInputsAreKeptApart(t *testing.T) {
	far := api.Point{X: 77, Y: 77}
	for _, c := range calls() {
		for _, in := range inputs() {
			given := in
			var wholes [3][]api.Point
			var wholeWay []int
			given.g.Barred, wholes[0] = roomy(in.g.Barred, far)
			given.starts, wholes[1] = roomy(in.starts, far)
			given.ends, wholes[2] = roomy(in.ends, far)
			given.way, wholeWay = roomy(in.way, 77)
			before := [3][]api.Point{slices.Clone(wholes[0]), slices.Clone(wholes[1]), slices.Clone(wholes[2])}
			beforeWay := slices.Clone(wholeWay)
			got := c.do(given)
			want := got.clone()
			scribble(got)
			for i, whole := range wholes {
				if !slices.Equal(whole, before[i]) {
					t.Fatal(c.name, "changed or answered what was handed in:", in)
				}
			}
			if !slices.Equal(wholeWay, beforeWay) {
				t.Fatal(c.name, "changed or answered what was handed in:", in)
			}
			if again := c.do(in); !again.same(want) {
				t.Fatal(c.name, "kept something, or hung on spare room:", in, want, again)
			}
		}
	}
}

// TestArgumentsMayBeOneList: lists that lie in one memory are no other than lists apart.
func TestArgumentsMayBeOneList(t *testing.T) {
	points := at(0, 0, 1, 0, 2, 1, 2, 2, 3, 3, 4, 3)
	kept := slices.Clone(points)
	for _, ends := range [][6]int{{0, 0, 0, 6, 0, 6}, {0, 0, 0, 2, 2, 4}, {5, 6, 0, 2, 3, 5}, {0, 1, 1, 3, 3, 5}, {2, 3, 0, 3, 2, 5}, {0, 6, 0, 4, 1, 5}} {
		barred, starts, reached := points[ends[0]:ends[1]], points[ends[2]:ends[3]], points[ends[4]:ends[5]]
		in := input{g: api.Grid{W: 5, H: 4, Barred: barred}, starts: starts, ends: reached, way: inOrder(len(starts))}
		apart := in
		apart.g.Barred, apart.starts, apart.ends = slices.Clone(barred), slices.Clone(starts), slices.Clone(reached)
		for _, c := range calls() {
			got := c.do(in)
			if want := c.do(apart); !got.same(want) {
				t.Fatal(c.name, ends, got, want)
			}
			scribble(got)
			if !slices.Equal(points, kept) {
				t.Fatal(c.name, "changed or answered what was handed in:", ends)
			}
		}
	}
}

// TestErrorsComeAlone: with an error every other result is its zero value.
func TestErrorsComeAlone(t *testing.T) {
	for _, c := range calls() {
		errors, fine := 0, 0
		for _, in := range inputs() {
			got := c.do(in)
			if got.err == api.OK {
				fine++
				continue
			}
			errors++
			if got.number != 0 || got.text != "" || got.texts != nil || got.numbers != nil {
				t.Fatal(c.name, in, got)
			}
		}
		if errors == 0 || fine == 0 {
			t.Error(c.name, "has had no error, or nothing else:", errors, fine)
		}
	}
}

// TestLongLists: P1 of lists that no grid has the points for.
func TestLongLists(t *testing.T) {
	long := slices.Repeat(at(0, 0), 1<<20)
	numbers := slices.Repeat([]int{0}, 1<<20)
	for _, c := range calls()[:5] {
		if got := c.do(input{g: api.Grid{W: 8, H: 8, Barred: long}, starts: long, ends: long, way: numbers}); got.err != api.ErrArg {
			t.Error(c.name, got.err)
		}
	}
	for _, c := range calls()[2:5] {
		if got := c.do(input{g: gridOf(8, 8), starts: long, ends: long, way: numbers}); got.err != api.ErrLarge {
			t.Error(c.name, got.err)
		}
		if got := c.do(input{g: gridOf(8, 8), starts: long, ends: long[1:], way: numbers}); got.err != api.ErrShape {
			t.Error(c.name, got.err)
		}
	}
	if n, err := Apart(gridOf(8, 8), long[:2], long[:2], numbers); n != 0 || err != api.ErrShape {
		t.Error(n, err)
	}
}

// TestNoGoroutineIsLeft: P1.
func TestNoGoroutineIsLeft(t *testing.T) {
	before := runtime.NumGoroutine()
	for _, c := range calls() {
		for _, in := range inputs() {
			c.do(in)
		}
	}
	if after := runtime.NumGoroutine(); after > before {
		t.Error(before, after)
	}
}
