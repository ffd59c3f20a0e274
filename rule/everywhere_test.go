package rule

import (
	"math"
	"runtime"
	"slices"
	"testing"

	"ferrers/api"
)

// input of any call: each takes of it what it needs.
type input struct {
	a, b, c []int
	k       int
}

func (in input) brief() input {
	return input{brief(in.a), brief(in.b), brief(in.c), in.k}
}

// answer of any call.
type answer struct {
	number   int
	fillings [][][]int
	terms    []api.Term
	rows     [][]int
	err      api.Errno
}

func (a answer) same(b answer) bool {
	return a.number == b.number && sameFillings(a.fillings, b.fillings) && sameTerms(a.terms, b.terms) &&
		sameRows(a.rows, b.rows) && a.err == b.err
}

func cloneRows(rows [][]int) [][]int {
	rows = slices.Clone(rows)
	for i, row := range rows {
		rows[i] = slices.Clone(row)
	}
	return rows
}

// clone keeps what was answered apart from what is scribbled over later.
func (a answer) clone() answer {
	a.fillings, a.terms = slices.Clone(a.fillings), slices.Clone(a.terms)
	for i, rows := range a.fillings {
		a.fillings[i] = cloneRows(rows)
	}
	for i, term := range a.terms {
		a.terms[i].Part = slices.Clone(term.Part)
	}
	a.rows = cloneRows(a.rows)
	return a
}

// lists are all lists of numbers of an answer, those in the spare room of other lists included.
func (a answer) lists() [][]int {
	lists := slices.Clone(a.rows[:cap(a.rows)])
	for _, rows := range a.fillings[:cap(a.fillings)] {
		lists = append(lists, rows[:cap(rows)]...)
	}
	for _, term := range a.terms[:cap(a.terms)] {
		lists = append(lists, term.Part)
	}
	return lists
}

type call struct {
	name string
	do   func(in input) answer
}

func calls() []call {
	return []call{
		{"Number", func(in input) answer {
			n, err := Number(in.a, in.b, in.c)
			return answer{number: n, err: err}
		}},
		{"Fillings", func(in input) answer {
			list, err := Fillings(in.a, in.b, in.c)
			return answer{fillings: list, err: err}
		}},
		{"Product", func(in input) answer {
			terms, err := Product(in.a, in.b)
			return answer{terms: terms, err: err}
		}},
		{"Row", func(in input) answer {
			rows, err := Row(in.a, in.k)
			return answer{rows: rows, err: err}
		}},
		{"Column", func(in input) answer {
			rows, err := Column(in.a, in.k)
			return answer{rows: rows, err: err}
		}},
	}
}

// inputs holds what each call can work with, and what it cannot.
func inputs() []input {
	ks := []int{0, 1, 2, 3, 9, 15, 16, 17, -1, math.MinInt, math.MaxInt}
	var list []input
	eachPair(5, func(a, b []int) {
		for i, c := range shapes(boxesOf(a) + boxesOf(b)) {
			list = append(list, input{a, b, c, i})
		}
	})
	for i, g := range greatFillings() {
		list = append(list, input{g[0], g[1], g[2], ks[i%len(ks)]})
	}
	odd := wideShapes()
	for _, bad := range badPartitions() {
		odd = append(odd, bad...)
	}
	for i, p := range odd {
		fine := []int{2, 1}
		list = append(list, input{p, fine, fine, ks[i%len(ks)]}, input{fine, p, fine, ks[i%len(ks)]}, input{fine, fine, p, ks[i%len(ks)]}, input{p, p, p, 1})
	}
	return list
}

const spare = 77

// roomy lays a list at the front of a longer one, whose rest is spare room.
func roomy(l []int) []int {
	return append(slices.Clone(l), spare, spare, spare, spare, spare)[:len(l)]
}

// handed is the input with spare room behind each list.
func handed(in input) input {
	return input{roomy(in.a), roomy(in.b), roomy(in.c), in.k}
}

// whole shows all lists of an input, spare room included.
func whole(in input) [][]int {
	return cloneRows([][]int{in.a[:cap(in.a)], in.b[:cap(in.b)], in.c[:cap(in.c)]})
}

// mark writes over a list and over its spare room.
func mark[T any](l []T, with T) {
	l = l[:cap(l)]
	for i := range l {
		l[i] = with
	}
}

// scribble writes over all lists of an answer.
func scribble(a answer) {
	for _, list := range a.lists() {
		mark(list, -99)
	}
	for _, rows := range a.fillings[:cap(a.fillings)] {
		mark(rows, []int{-98})
	}
	mark(a.fillings, [][]int{{-97}})
	mark(a.terms, api.Term{Part: []int{-98}, N: "-97"})
	mark(a.rows, []int{-98})
}

// TestInputsAreKeptApart: P2 of each call, and P1 in that each of them answers.
func TestInputsAreKeptApart(t *testing.T) {
	for _, c := range calls() {
		for _, in := range inputs() {
			given := handed(in)
			before := whole(given)
			got := c.do(given)
			want := got.clone()
			scribble(got)
			if !sameRows(whole(given), before) {
				t.Fatal(c.name, "changed or answered what was handed in:", in.brief())
			}
			if again := c.do(in); !again.same(want) {
				t.Fatal(c.name, "kept something, or hung on spare room:", in.brief(), want, again)
			}
		}
	}
}

// TestArgumentsMayBeOneList: lists that lie in one memory are no other than lists apart.
func TestArgumentsMayBeOneList(t *testing.T) {
	numbers := []int{4, 3, 2, 1, 1, 1, 16, 1, 1}
	kept := slices.Clone(numbers)
	for _, in := range []input{
		{numbers[2:4], numbers[2:4], numbers[1:4], 2},
		{numbers[1:4], numbers[3:5], numbers[1:6], 3},
		{numbers[:0], numbers[:4], numbers[:4], 1},
		{numbers[:4], numbers[4:4], numbers[:4], 6},
		{numbers[3:5], numbers[3:4], numbers[3:6], 0},
		{numbers[6:7], numbers[:0], numbers[6:7], 0},
		{numbers[6:8], numbers[6:8], numbers[6:8], 0},
	} {
		for _, c := range calls() {
			want := c.do(input{slices.Clone(in.a), slices.Clone(in.b), slices.Clone(in.c), in.k})
			got := c.do(in)
			if !got.same(want) {
				t.Fatal(c.name, in, got, want)
			}
			scribble(got)
			if !slices.Equal(numbers, kept) {
				t.Fatal(c.name, "changed or answered what was handed in:", in)
			}
		}
	}
}

// TestListsOfOneAnswerShareNothing: P2, the spare room included: each list is marked all over,
// and none of the marks is written over by another's.
func TestListsOfOneAnswerShareNothing(t *testing.T) {
	for _, c := range calls() {
		for _, in := range inputs() {
			got := c.do(in)
			lists := got.lists()
			for k, l := range lists {
				mark(l, k)
			}
			for k, l := range lists {
				if slices.ContainsFunc(l[:cap(l)], func(n int) bool { return n != k }) {
					t.Fatal(c.name, in.brief(), "two lists share room")
				}
			}
			for k, rows := range got.fillings {
				mark(rows, []int{k})
			}
			for k, rows := range got.fillings {
				if slices.ContainsFunc(rows[:cap(rows)], func(row []int) bool { return row[0] != k }) {
					t.Fatal(c.name, in.brief(), "two lists of rows share room")
				}
			}
		}
	}
}

// TestErrorsComeAlone: with an error every other result is its zero value.
func TestErrorsComeAlone(t *testing.T) {
	for _, c := range calls() {
		errors, fine := 0, 0
		for _, in := range inputs() {
			got := c.do(in)
			if got.err == api.OK {
				fine++
				continue
			}
			errors++
			if got.number != 0 || got.fillings != nil || got.terms != nil || got.rows != nil {
				t.Fatal(c.name, in.brief(), got)
			}
		}
		if errors == 0 || fine == 0 {
			t.Error(c.name, "has had no error, or nothing else:", errors, fine)
		}
	}
}

// TestNoGoroutineIsLeft: P1.
func TestNoGoroutineIsLeft(t *testing.T) {
	before := runtime.NumGoroutine()
	for _, c := range calls() {
		for _, in := range inputs() {
			c.do(in)
		}
	}
	if after := runtime.NumGoroutine(); after > before {
		t.Error(before, after)
	}
}
