package cubes

import (
	"math"
	"runtime"
	"slices"
	"testing"

	"ferrers/api"
)

// input of any call: each takes of it what it needs.
type input struct {
	p             [][]int
	height        int
	rows, columns int
	texts         []string
}

// answer of any call.
type answer struct {
	number int
	text   string
	texts  []string
	rows   [][]int
	piles  [][][]int
	err    api.Errno
}

func (a answer) same(b answer) bool {
	return a.number == b.number && a.text == b.text && slices.Equal(a.texts, b.texts) &&
		sameRows(a.rows, b.rows) && slices.EqualFunc(a.piles, b.piles, sameRows) && a.err == b.err
}

// clone keeps what was answered apart from what is scribbled over later.
func (a answer) clone() answer {
	a.texts, a.rows, a.piles = slices.Clone(a.texts), cloneRows(a.rows), slices.Clone(a.piles)
	for i, p := range a.piles {
		a.piles[i] = cloneRows(p)
	}
	return a
}

// lists are all lists of rows of an answer.
func (a answer) lists() [][][]int {
	return append([][][]int{a.rows}, a.piles...)
}

type call struct {
	name   string
	ofPile bool
	do     func(in input) answer
}

// turning makes a call of one that makes a pile of a pile.
func turning(name string, do func([][]int, int) ([][]int, api.Errno)) call {
	return call{name, true, func(in input) answer {
		rows, err := do(in.p, in.height)
		return answer{rows: rows, err: err}
	}}
}

func calls() []call {
	return []call{
		turning("Turned", Turned), turning("Mirrored", Mirrored), turning("Rest", Rest),
		{"Check", true, func(in input) answer { return answer{err: Check(in.p, in.height)} }},
		{"Volume", true, func(in input) answer {
			n, err := Volume(in.p, in.height)
			return answer{number: n, err: err}
		}},
		{"Paths", true, func(in input) answer {
			list, err := Paths(in.p, in.height)
			return answer{texts: list, err: err}
		}},
		{"FromPaths", false, func(in input) answer {
			rows, err := FromPaths(in.texts)
			return answer{rows: rows, err: err}
		}},
		{"Count", false, func(in input) answer {
			text, err := Count(in.rows, in.columns, in.height)
			return answer{text: text, err: err}
		}},
		{"Series", false, func(in input) answer {
			list, err := Series(in.rows * in.columns)
			return answer{texts: list, err: err}
		}},
		{"All", false, func(in input) answer {
			list, err := All(in.rows, in.columns, in.height)
			return answer{piles: list, err: err}
		}},
	}
}

// inputs holds what each call can work with, and what it cannot.
func inputs() []input {
	sides := []int{1, 2, 3, 8, 0, 9, 20, 21, -1, math.MinInt, math.MaxInt}
	texts := [][]string{nil, {"UR"}, {"RU", "UR", "RU"}, {"UR", "x"}, slices.Repeat([]string{"UR"}, 9), {"RRUU", "URUR"}, {"UUUUUUUUURRRRRRRRR"}, {"", ""}}
	var list []input
	for i, g := range greatPiles() {
		if i%7 == 0 {
			list = append(list, input{g.p, g.height, len(g.p), len(g.p[0]), walkedAll(g.p, g.height)})
		}
	}
	for i, p := range append(badPiles(), full(1, 1, 1), full(8, 8, 1)) {
		for j, height := range append(badHeights(), 1, 2, 8) {
			k := i + j
			list = append(list, input{p, height, sides[k%len(sides)], sides[k/2%len(sides)], texts[k%len(texts)]})
		}
	}
	return list
}

// roomy lays a list at the front of a longer one, whose rest is spare room.
func roomy[T any](l []T, rest T) []T {
	return append(slices.Clone(l), rest, rest, rest, rest, rest)[:len(l)]
}

// handed is the input with spare room behind each list.
func handed(in input) input {
	in.p, in.texts = roomy(in.p, []int{77}), roomy(in.texts, "spare")
	for i, row := range in.p {
		in.p[i] = roomy(row, 77)
	}
	return in
}

// whole shows all of an input, spare room included.
func whole(in input) input {
	in.p, in.texts = slices.Clone(in.p[:cap(in.p)]), slices.Clone(in.texts[:cap(in.texts)])
	for i, row := range in.p {
		in.p[i] = slices.Clone(row[:cap(row)])
	}
	return in
}

func sameInputs(a, b input) bool {
	return sameRows(a.p, b.p) && slices.Equal(a.texts, b.texts)
}

// mark writes over a list and over its spare room.
func mark[T any](l []T, with T) {
	l = l[:cap(l)]
	for i := range l {
		l[i] = with
	}
}

// scribble writes over all lists of an answer, those in spare room included.
func scribble(a answer) {
	mark(a.texts, "scribbled")
	for _, rows := range append(a.lists(), a.piles[len(a.piles):cap(a.piles)]...) {
		for _, row := range rows[:cap(rows)] {
			mark(row, -99)
		}
		mark(rows, []int{-98})
	}
	mark(a.piles, [][]int{{-97}})
}

// TestInputsAreKeptApart: P2 of each call, and P1 in that each of them answers.
func TestInputsAreKeptApart(t *testing.T) {
	for _, c := range calls() {
		for _, in := range inputs() {
			given := handed(in)
			before := whole(given)
			got := c.do(given)
			want := got.clone()
			scribble(got)
			if !sameInputs(whole(given), before) {
				t.Fatal(c.name, "changed or answered what was handed in:", in)
			}
			if again := c.do(in); !again.same(want) {
				t.Fatal(c.name, "kept something, or hung on spare room:", in, want, again)
			}
		}
	}
}

// TestRowsMayBeOneList: rows that lie in one memory are no other than rows apart.
func TestRowsMayBeOneList(t *testing.T) {
	numbers := []int{5, 5, 4, 3, 3, 1, 1, 0}
	kept := slices.Clone(numbers)
	for _, p := range [][][]int{
		{numbers[0:4], numbers[1:5], numbers[2:6]},
		{numbers, numbers, numbers},
		{numbers[:2], numbers[3:5], numbers[6:]},
		{numbers[2:5], numbers[1:4]},
	} {
		for _, c := range calls() {
			if !c.ofPile {
				continue
			}
			want := c.do(input{p: cloneRows(p), height: 6})
			got := c.do(input{p: p, height: 6})
			if !got.same(want) {
				t.Fatal(c.name, p, got, want)
			}
			scribble(got)
			if !slices.Equal(numbers, kept) {
				t.Fatal(c.name, "changed or answered what was handed in:", p)
			}
		}
	}
}

// TestListsOfOneAnswerShareNothing: P2, the spare room included: each list is marked all over,
// and none of the marks is written over by another's.
func TestListsOfOneAnswerShareNothing(t *testing.T) {
	for _, c := range calls() {
		for _, in := range inputs() {
			piles := c.do(in).lists()
			lists := slices.Concat(piles...)
			for k, l := range lists {
				mark(l, k)
			}
			for k, l := range lists {
				if slices.ContainsFunc(l[:cap(l)], func(n int) bool { return n != k }) {
					t.Fatal(c.name, in, "two rows share room")
				}
			}
			marks := make([][]int, len(piles))
			for k, p := range piles {
				marks[k] = []int{k}
				mark(p, marks[k])
			}
			for k, p := range piles {
				if slices.ContainsFunc(p[:cap(p)], func(row []int) bool { return &row[0] != &marks[k][0] }) {
					t.Fatal(c.name, in, "two piles share room")
				}
			}
		}
	}
}

// TestErrorsComeAlone: with an error every other result is its zero value.
func TestErrorsComeAlone(t *testing.T) {
	for _, c := range calls() {
		errors, fine := 0, 0
		for _, in := range inputs() {
			got := c.do(in)
			if got.err == api.OK {
				fine++
				continue
			}
			errors++
			if got.number != 0 || got.text != "" || got.texts != nil || got.rows != nil || got.piles != nil {
				t.Fatal(c.name, in, got)
			}
		}
		if errors == 0 || fine == 0 {
			t.Error(c.name, "has had no error, or nothing else:", errors, fine)
		}
	}
}

// TestNoGoroutineIsLeft: P1.
func TestNoGoroutineIsLeft(t *testing.T) {
	before := runtime.NumGoroutine()
	for _, c := range calls() {
		for _, in := range inputs() {
			c.do(in)
		}
	}
	if after := runtime.NumGoroutine(); after > before {
		t.Error(before, after)
	}
}
