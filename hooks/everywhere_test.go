package hooks

import (
	"math"
	"runtime"
	"slices"
	"testing"

	"ferrers/api"
)

// input of any call: each takes of it what it needs.
type input struct {
	p    []int
	most int
}

// answer of any call.
type answer struct {
	rows [][]int
	text string
	err  api.Errno
}

func (a answer) same(b answer) bool {
	return sameRows(a.rows, b.rows) && a.text == b.text && a.err == b.err
}

// clone keeps what was answered apart from what is scribbled over later.
func (a answer) clone() answer {
	rows := make([][]int, len(a.rows))
	for i, row := range a.rows {
		rows[i] = slices.Clone(row)
	}
	a.rows = rows
	return a
}

type call struct {
	name string
	do   func(in input) answer
}

// listing makes a call of one that answers rows.
func listing(name string, do func([]int) ([][]int, api.Errno)) call {
	return call{name, func(in input) answer {
		rows, err := do(in.p)
		return answer{rows: rows, err: err}
	}}
}

func calls() []call {
	return []call{
		listing("Hooks", Hooks), listing("Below", Below), listing("Above", Above),
		{"Standard", func(in input) answer {
			text, err := Standard(in.p)
			return answer{text: text, err: err}
		}},
		{"Fillings", func(in input) answer {
			text, err := Fillings(in.p, in.most)
			return answer{text: text, err: err}
		}},
	}
}

// inputs holds what each call can work with, and what it cannot.
func inputs() []input {
	mosts := []int{0, 1, 2, 3, 39, 40, 99, -1, 100, math.MinInt, math.MaxInt}
	var list []input
	eachShape(7, func(p []int) {
		for _, most := range mosts {
			list = append(list, input{p, most})
		}
	})
	great := greatShapes()
	for _, bad := range badPartitions() {
		great = append(great, bad...)
	}
	for i, p := range great {
		list = append(list, input{p, mosts[i%len(mosts)]}, input{p, 99})
	}
	return list
}

// roomy lays a list at the front of a longer one, whose rest is spare room.
func roomy(l []int) (list, whole []int) {
	whole = append(slices.Clone(l), 77, 77, 77, 77, 77)
	return whole[:len(l)], whole
}

// mark writes over a list and over its spare room.
func mark[T any](l []T, with T) {
	l = l[:cap(l)]
	for i := range l {
		l[i] = with
	}
}

// scribble writes over all lists of an answer, those in the spare room of its rows' list included.
func scribble(a answer) {
	for _, row := range a.rows[:cap(a.rows)] {
		mark(row, -99)
	}
	mark(a.rows, []int{-98})
}

// TestInputsAreKeptApart: P2 of each call, and P1 in that each of them answers.
func TestInputsAreKeptApart(t *testing.T) {
	for _, c := range calls() {
		for _, in := range inputs() {
			p, whole := roomy(in.p)
			before := slices.Clone(whole)
			got := c.do(input{p, in.most})
			want := got.clone()
			scribble(got)
			if !slices.Equal(whole, before) {
				t.Fatal(c.name, "changed or answered what was handed in:", len(in.p), in.most)
			}
			if again := c.do(in); !again.same(want) {
				t.Fatal(c.name, "kept something, or hung on spare room:", len(in.p), in.most, want, again)
			}
		}
	}
}

// TestListsOfOneAnswerShareNothing: P2, the spare room included: each list is marked all over,
// and none of the marks is written over by another's.
func TestListsOfOneAnswerShareNothing(t *testing.T) {
	for _, c := range calls() {
		for _, in := range inputs() {
			lists := c.do(in).rows
			for k, l := range lists {
				mark(l, k)
			}
			for k, l := range lists {
				if slices.ContainsFunc(l[:cap(l)], func(n int) bool { return n != k }) {
					t.Fatal(c.name, in, "two lists share room")
				}
			}
		}
	}
}

// TestErrorsComeAlone: with an error every other result is its zero value.
func TestErrorsComeAlone(t *testing.T) {
	for _, c := range calls() {
		errors, fine := 0, 0
		for _, in := range inputs() {
			got := c.do(in)
			if got.err == api.OK {
				fine++
				continue
			}
			errors++
			if got.rows != nil || got.text != "" {
				t.Fatal(c.name, len(in.p), in.most, got)
			}
		}
		if errors == 0 || fine == 0 {
			t.Error(c.name, "has had no error, or nothing else:", errors, fine)
		}
	}
}

// TestNoGoroutineIsLeft: P1.
func TestNoGoroutineIsLeft(t *testing.T) {
	before := runtime.NumGoroutine()
	for _, c := range calls() {
		for _, in := range inputs() {
			c.do(in)
		}
	}
	if after := runtime.NumGoroutine(); after > before {
		t.Error(before, after)
	}
}
