package signs

import (
	"math"
	"runtime"
	"slices"
	"testing"

	"ferrers/api"
)

// input of any call: each takes of it what it needs.
type input struct {
	a, b [][]int
	n    int
}

// answer of any call.
type answer struct {
	is       bool
	text     string
	list     []int
	rows     [][]int
	matrices [][][]int
	err      api.Errno
}

func (a answer) same(b answer) bool {
	return a.is == b.is && a.text == b.text && slices.Equal(a.list, b.list) && sameRows(a.rows, b.rows) &&
		slices.EqualFunc(a.matrices, b.matrices, sameRows) && a.err == b.err
}

// clone keeps what was answered apart from what is scribbled over later.
func (a answer) clone() answer {
	a.list, a.rows, a.matrices = slices.Clone(a.list), cloneRows(a.rows), slices.Clone(a.matrices)
	for i, m := range a.matrices {
		a.matrices[i] = cloneRows(m)
	}
	return a
}

// tables are all lists of rows of an answer.
func (a answer) tables() [][][]int {
	return append([][][]int{a.rows}, a.matrices...)
}

type call struct {
	name     string
	ofMatrix bool
	ofTwo    bool
	do       func(in input) answer
}

// turning makes a call of one that makes rows of rows.
func turning(name string, ofMatrix bool, do func([][]int) ([][]int, api.Errno)) call {
	return call{name, ofMatrix, false, func(in input) answer {
		rows, err := do(in.a)
		return answer{rows: rows, err: err}
	}}
}

// joining makes a call of one that makes a matrix of two.
func joining(name string, do func(a, b [][]int) ([][]int, api.Errno)) call {
	return call{name, true, true, func(in input) answer {
		rows, err := do(in.a, in.b)
		return answer{rows: rows, err: err}
	}}
}

func calls() []call {
	return []call{
		turning("Corner", true, Corner), turning("FromCorner", false, FromCorner),
		turning("Triangle", true, Triangle), turning("FromTriangle", false, FromTriangle),
		turning("Gyrate", true, Gyrate), joining("Meet", Meet), joining("Join", Join),
		{"Check", true, false, func(in input) answer { return answer{err: Check(in.a)} }},
		{"Count", false, false, func(in input) answer {
			text, err := Count(in.n)
			return answer{text: text, err: err}
		}},
		{"All", false, false, func(in input) answer {
			list, err := All(in.n)
			return answer{matrices: list, err: err}
		}},
		{"Below", true, true, func(in input) answer {
			is, err := Below(in.a, in.b)
			return answer{is: is, err: err}
		}},
		{"Links", true, false, func(in input) answer {
			list, err := Links(in.a)
			return answer{list: list, err: err}
		}},
	}
}

// inputs holds what each call can work with, and what it cannot.
func inputs() []input {
	numbers := []int{1, 2, 3, 4, 5, 6, 0, 7, 30, 31, -1, math.MinInt, math.MaxInt}
	var tables [][][]int
	for n := 1; n <= 7; n++ {
		for _, m := range spreadMatrices(n, 10) {
			tables = append(tables, m, backward(m), cornerOf(m), triangleOf(m))
		}
	}
	tables = append(tables, badMatrices()...)
	var list []input
	for k, a := range tables {
		for _, step := range []int{0, 1, 4, 17} {
			list = append(list, input{a, tables[(k+step)%len(tables)], numbers[(k+step)%len(numbers)]})
		}
	}
	return list
}

// roomy lays a list at the front of a longer one, whose rest is spare room.
func roomy[T any](l []T, rest T) []T {
	return append(slices.Clone(l), rest, rest, rest, rest, rest)[:len(l)]
}

// roomyRows has spare room behind each row, and behind the rows.
func roomyRows(m [][]int) [][]int {
	m = roomy(m, []int{77})
	for i, row := range m {
		m[i] = roomy(row, 77)
	}
	return m
}

// wholeRows shows all of the rows, spare room included.
func wholeRows(m [][]int) [][]int {
	m = slices.Clone(m[:cap(m)])
	for i, row := range m {
		m[i] = slices.Clone(row[:cap(row)])
	}
	return m
}

// mark writes over a list and over its spare room.
func mark[T any](l []T, with T) {
	l = l[:cap(l)]
	for i := range l {
		l[i] = with
	}
}

// scribble writes over all lists of an answer, those in spare room included.
func scribble(a answer) {
	mark(a.list, -96)
	for _, rows := range append(a.tables(), a.matrices[len(a.matrices):cap(a.matrices)]...) {
		for _, row := range rows[:cap(rows)] {
			mark(row, -99)
		}
		mark(rows, []int{-98})
	}
	mark(a.matrices, [][]int{{-97}})
}

// TestInputsAreKeptApart: P2 of each call, and P1 in that each of them answers.
func TestInputsAreKeptApart(t *testing.T) {
	all := inputs()
	for _, c := range calls() {
		for _, in := range all {
			given := input{roomyRows(in.a), roomyRows(in.b), in.n}
			before := input{wholeRows(given.a), wholeRows(given.b), in.n}
			got := c.do(given)
			want := got.clone()
			scribble(got)
			if !sameRows(wholeRows(given.a), before.a) || !sameRows(wholeRows(given.b), before.b) {
				t.Fatal(c.name, "changed or answered what was handed in:", in)
			}
			if again := c.do(in); !again.same(want) {
				t.Fatal(c.name, "kept something, or hung on spare room:", in, want, again)
			}
		}
	}
}

// TestRowsMayBeOneList: rows that lie in one memory are no other than rows apart.
func TestRowsMayBeOneList(t *testing.T) {
	numbers := []int{0, 0, 0, 1, 0, 0, 0}
	kept := slices.Clone(numbers)
	m := [][]int{numbers[3:], numbers[2:6], numbers[1:5], numbers[:4]}
	for _, c := range calls() {
		want := c.do(input{a: cloneRows(m), b: cloneRows(m)})
		got := c.do(input{a: m, b: m})
		if !got.same(want) || c.ofMatrix && got.err != api.OK {
			t.Fatal(c.name, got, want)
		}
		scribble(got)
		if !slices.Equal(numbers, kept) {
			t.Fatal(c.name, "changed or answered what was handed in")
		}
	}
}

// TestListsOfOneAnswerShareNothing: P2, the spare room included: each list is marked all over,
// and none of the marks is written over by another's.
func TestListsOfOneAnswerShareNothing(t *testing.T) {
	all := inputs()
	for _, c := range calls() {
		for _, in := range all {
			tables := c.do(in).tables()
			lists := slices.Concat(tables...)
			for k, l := range lists {
				mark(l, k)
			}
			for k, l := range lists {
				if slices.ContainsFunc(l[:cap(l)], func(n int) bool { return n != k }) {
					t.Fatal(c.name, in, "two rows share room")
				}
			}
			marks := make([][]int, len(tables))
			for k, m := range tables {
				marks[k] = []int{k}
				mark(m, marks[k])
			}
			for k, m := range tables {
				if slices.ContainsFunc(m[:cap(m)], func(row []int) bool { return &row[0] != &marks[k][0] }) {
					t.Fatal(c.name, in, "two matrices share room")
				}
			}
		}
	}
}

// TestErrorsComeAlone: with an error every other result is its zero value.
func TestErrorsComeAlone(t *testing.T) {
	all := inputs()
	for _, c := range calls() {
		errors, fine := 0, 0
		for _, in := range all {
			got := c.do(in)
			if got.err == api.OK {
				fine++
				continue
			}
			errors++
			if got.is || got.text != "" || got.list != nil || got.rows != nil || got.matrices != nil {
				t.Fatal(c.name, in, got)
			}
		}
		if errors == 0 || fine == 0 {
			t.Error(c.name, "has had no error, or nothing else:", errors, fine)
		}
	}
}

// TestNoGoroutineIsLeft: P1.
func TestNoGoroutineIsLeft(t *testing.T) {
	before := runtime.NumGoroutine()
	all := inputs()
	for _, c := range calls() {
		for _, in := range all {
			c.do(in)
		}
	}
	if after := runtime.NumGoroutine(); after > before {
		t.Error(before, after)
	}
}
