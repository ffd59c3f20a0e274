package slides

import (
	"math"
	"runtime"
	"slices"
	"testing"

	"ferrers/api"
)

// input of any call: each takes of it what it needs.
type input struct {
	s, order [][]int
	row      int
}

// answer of any call.
type answer struct {
	rows   [][]int
	list   []int
	number int
	err    api.Errno
}

func (a answer) same(b answer) bool {
	return sameRows(a.rows, b.rows) && slices.Equal(a.list, b.list) && a.number == b.number && a.err == b.err
}

// clone keeps what was answered apart from what is scribbled over later.
func (a answer) clone() answer {
	a.rows, a.list = cloneRows(a.rows), slices.Clone(a.list)
	return a
}

// numbers lists the lists of numbers of an answer.
func (a answer) numbers() [][]int {
	return append([][]int{a.list}, a.rows...)
}

type call struct {
	name string
	do   func(in input) answer
}

// turning makes a call of one that takes rows alone.
func turning(name string, do func([][]int) ([][]int, api.Errno)) call {
	return call{name, func(in input) answer {
		rows, err := do(in.s)
		return answer{rows: rows, err: err}
	}}
}

func calls() []call {
	return []call{
		turning("Rectify", Rectify), turning("Evacuate", Evacuate), turning("Promote", Promote), turning("Demote", Demote),
		{"Check", func(in input) answer { return answer{err: Check(in.s)} }},
		{"Word", func(in input) answer {
			list, err := Word(in.s)
			return answer{list: list, err: err}
		}},
		{"Slide", func(in input) answer {
			rows, number, err := Slide(in.s, in.row)
			return answer{rows: rows, number: number, err: err}
		}},
		{"RectifyBy", func(in input) answer {
			rows, err := RectifyBy(in.s, in.order)
			return answer{rows: rows, err: err}
		}},
	}
}

// inputs holds what each call can work with, and what it cannot.
func inputs() []input {
	var list []input
	eachSkew(5, 2, func(s [][]int) {
		for i, order := range append(orders(s), nil) {
			list = append(list, input{s, order, i})
		}
	})
	eachStandard(5, func(t [][]int) { list = append(list, input{t, t, len(t) - 1}) })
	skews, ways := greatSkews()
	for i, s := range skews {
		list = append(list, input{s, ways[i], len(ways[i]) - 1})
	}
	for i, t := range greatStandards() {
		holes := make([][]int, len(t))
		for i := range t {
			holes[i] = make([]int, len(t[i]))
		}
		list = append(list, input{s: t, row: i}, input{holes, t, i % 5})
	}
	rows := []int{-1, 0, 1, 2, 40, math.MinInt, math.MaxInt}
	for _, bads := range []map[api.Errno][][][]int{badSkews(), badTableaux()} {
		for _, bad := range bads {
			for i, s := range bad {
				fine := [][]int{{0, 1}, {1}}
				list = append(list, input{s, [][]int{{1}}, rows[i%len(rows)]}, input{fine, s, rows[i%len(rows)]}, input{s, s, 0})
			}
		}
	}
	return list
}

const spare = 77

// roomy lays a list at the front of a longer one, whose rest is spare room.
func roomy[T any](l []T, rest T) []T {
	return append(slices.Clone(l), rest, rest, rest, rest, rest)[:len(l)]
}

// roomyRows does so with the rows, and with their list.
func roomyRows(t [][]int) [][]int {
	r := roomy(t, []int{spare})
	for i, row := range r {
		r[i] = roomy(row, spare)
	}
	return r
}

// handed is the input with spare room behind each list.
func handed(in input) input {
	return input{roomyRows(in.s), roomyRows(in.order), in.row}
}

// whole shows all of an input, spare room included.
func whole(in input) input {
	all := func(t [][]int) [][]int {
		t = slices.Clone(t[:cap(t)])
		for i, row := range t {
			t[i] = slices.Clone(row[:cap(row)])
		}
		return t
	}
	return input{all(in.s), all(in.order), in.row}
}

func sameInputs(a, b input) bool {
	return sameRows(a.s, b.s) && sameRows(a.order, b.order) && a.row == b.row
}

// mark writes over a list and over its spare room.
func mark[T any](l []T, with T) {
	l = l[:cap(l)]
	for i := range l {
		l[i] = with
	}
}

// scribble writes over all lists of an answer, those in the spare room of its rows' list included.
func scribble(a answer) {
	mark(a.list, -99)
	for _, row := range a.rows[:cap(a.rows)] {
		mark(row, -99)
	}
	mark(a.rows, []int{-98})
}

// TestInputsAreKeptApart: P2 of each call, and P1 in that each of them answers.
func TestInputsAreKeptApart(t *testing.T) {
	for _, c := range calls() {
		for _, in := range inputs() {
			given := handed(in)
			before := whole(given)
			got := c.do(given)
			want := got.clone()
			scribble(got)
			if !sameInputs(whole(given), before) {
				t.Fatal(c.name, "changed or answered what was handed in:", brief(in.s), brief(in.order), in.row)
			}
			if again := c.do(in); !again.same(want) {
				t.Fatal(c.name, "kept something, or hung on spare room:", brief(in.s), brief(in.order), in.row, want, again)
			}
		}
	}
}

// TestArgumentsMayBeOneList: lists that lie in one memory are no other than lists apart.
func TestArgumentsMayBeOneList(t *testing.T) {
	numbers := append(make([]int, 3), rowFrom(1, 37)...)
	kept := slices.Clone(numbers)
	for _, in := range []input{
		{s: [][]int{numbers[1:6], numbers[2:6], numbers[3:6]}, order: [][]int{numbers[3:5], numbers[5:6]}},
		{s: [][]int{numbers[:5], numbers[2:6]}, order: [][]int{numbers[3:6], numbers[6:7]}, row: 1},
		{s: [][]int{numbers[2:5], numbers[3:5]}, order: [][]int{numbers[3:4]}},
		{s: [][]int{numbers[:3], numbers[:2]}, order: [][]int{numbers[3:6], numbers[6:8]}, row: 1},
		{s: [][]int{numbers[3:6], numbers[6:8]}, order: [][]int{numbers[3:6], numbers[6:8]}},
		{s: [][]int{numbers[3:6], numbers[4:6]}, order: [][]int{numbers[4:6]}},
	} {
		for _, c := range calls() {
			want := c.do(input{cloneRows(in.s), cloneRows(in.order), in.row})
			got := c.do(in)
			if !got.same(want) {
				t.Fatal(c.name, in, got, want)
			}
			scribble(got)
			if !slices.Equal(numbers, kept) {
				t.Fatal(c.name, "changed or answered what was handed in:", in)
			}
		}
	}
}

// TestListsOfOneAnswerShareNothing: P2, the spare room included: each list is marked all over,
// and none of the marks is written over by another's.
func TestListsOfOneAnswerShareNothing(t *testing.T) {
	for _, c := range calls() {
		for _, in := range inputs() {
			lists := c.do(in).numbers()
			for k, l := range lists {
				mark(l, k)
			}
			for k, l := range lists {
				if slices.ContainsFunc(l[:cap(l)], func(n int) bool { return n != k }) {
					t.Fatal(c.name, brief(in.s), brief(in.order), in.row, "two lists share room")
				}
			}
		}
	}
}

// TestErrorsComeAlone: with an error every other result is its zero value.
func TestErrorsComeAlone(t *testing.T) {
	for _, c := range calls() {
		errors, fine := 0, 0
		for _, in := range inputs() {
			got := c.do(in)
			if got.err == api.OK {
				fine++
				continue
			}
			errors++
			if got.rows != nil || got.list != nil || got.number != 0 {
				t.Fatal(c.name, brief(in.s), brief(in.order), in.row, got)
			}
		}
		if errors == 0 || fine == 0 {
			t.Error(c.name, "has had no error, or nothing else:", errors, fine)
		}
	}
}

// TestNoGoroutineIsLeft: P1.
func TestNoGoroutineIsLeft(t *testing.T) {
	before := runtime.NumGoroutine()
	for _, c := range calls() {
		for _, in := range inputs() {
			c.do(in)
		}
	}
	if after := runtime.NumGoroutine(); after > before {
		t.Error(before, after)
	}
}
