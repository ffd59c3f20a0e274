package chars

import (
	"math"
	"runtime"
	"slices"
	"testing"

	"ferrers/api"
)

// input of any call: each takes of it what it needs.
type input struct {
	p, cycles []int
	n         int
}

// answer of any call.
type answer struct {
	strips []api.Strip
	rows   [][]int
	number int
	err    api.Errno
}

func (a answer) same(b answer) bool {
	return sameStrips(a.strips, b.strips) && sameRows(a.rows, b.rows) && a.number == b.number && a.err == b.err
}

// clone keeps what was answered apart from what is scribbled over later.
func (a answer) clone() answer {
	a.strips = slices.Clone(a.strips)
	for i, strip := range a.strips {
		a.strips[i].Part = slices.Clone(strip.Part)
	}
	a.rows = slices.Clone(a.rows)
	for i, row := range a.rows {
		a.rows[i] = slices.Clone(row)
	}
	return a
}

// lists are all lists of numbers of an answer, those in the spare room of the lists around them included.
func (a answer) lists() [][]int {
	lists := slices.Clone(a.rows[:cap(a.rows)])
	for _, strip := range a.strips[:cap(a.strips)] {
		lists = append(lists, strip.Part)
	}
	return lists
}

type call struct {
	name string
	do   func(in input) answer
}

func calls() []call {
	return []call{
		{"Strips", func(in input) answer {
			list, err := Strips(in.p, in.n)
			return answer{strips: list, err: err}
		}},
		{"Character", func(in input) answer {
			n, err := Character(in.p, in.cycles)
			return answer{number: n, err: err}
		}},
		{"Table", func(in input) answer {
			rows, err := Table(in.n)
			return answer{rows: rows, err: err}
		}},
		{"Class", func(in input) answer {
			n, err := Class(in.cycles)
			return answer{number: n, err: err}
		}},
	}
}

// inputs holds what each call can work with, and what it cannot.
func inputs() []input {
	numbers := []int{0, 1, 2, 3, 4, 5, 6, 7, 8, 9, -1, 13, 40, 41, math.MinInt, math.MaxInt}
	var list []input
	add := func(p, cycles []int) {
		list = append(list, input{p, cycles, numbers[len(list)%len(numbers)]})
	}
	eachShape(6, func(p []int) {
		for _, cycles := range shapes(boxesOf(p)) {
			add(p, cycles)
		}
		add(p, []int{3, 1})
	})
	twelve := shapes(12)
	for i, p := range twelve {
		add(p, twelve[(5*i+3)%len(twelve)])
	}
	wide := append(fortyBoxes(), wideShapes()...)
	for _, bad := range badPartitions() {
		wide = append(wide, bad...)
	}
	for i, p := range wide {
		add(p, p)
		add(p, []int{2, 1})
		add([]int{2, 1}, p)
		add(p, wide[(7*i+1)%len(wide)])
	}
	return list
}

// roomy lays a list at the front of a longer one, whose rest is spare room.
func roomy(l []int) (list, whole []int) {
	whole = append(slices.Clone(l), 77, 77, 77, 77, 77)
	return whole[:len(l)], whole
}

// mark writes over a list and over its spare room.
func mark[T any](l []T, with T) {
	l = l[:cap(l)]
	for i := range l {
		l[i] = with
	}
}

// scribble writes over all lists of an answer.
func scribble(a answer) {
	for _, list := range a.lists() {
		mark(list, -99)
	}
	mark(a.strips, api.Strip{Part: []int{-98}, Height: -97})
	mark(a.rows, []int{-98})
}

// TestInputsAreKeptApart: P2 of each call, and P1 in that each of them answers.
func TestInputsAreKeptApart(t *testing.T) {
	for _, c := range calls() {
		for _, in := range inputs() {
			p, wholeP := roomy(in.p)
			cycles, wholeCycles := roomy(in.cycles)
			beforeP, beforeCycles := slices.Clone(wholeP), slices.Clone(wholeCycles)
			got := c.do(input{p, cycles, in.n})
			want := got.clone()
			scribble(got)
			if !slices.Equal(wholeP, beforeP) || !slices.Equal(wholeCycles, beforeCycles) {
				t.Fatal(c.name, "changed or answered what was handed in:", len(in.p), len(in.cycles), in.n)
			}
			if again := c.do(in); !again.same(want) {
				t.Fatal(c.name, "kept something, or hung on spare room:", len(in.p), len(in.cycles), in.n, want, again)
			}
		}
	}
}

// TestArgumentsMayBeOneList: lists that lie in one memory are no other than lists apart.
func TestArgumentsMayBeOneList(t *testing.T) {
	numbers := []int{4, 3, 2, 1, 1, 1}
	kept := slices.Clone(numbers)
	for _, ends := range [][4]int{{0, 6, 0, 6}, {0, 1, 2, 5}, {1, 3, 2, 6}, {2, 6, 1, 3}, {0, 2, 0, 3}} {
		p, cycles := numbers[ends[0]:ends[1]], numbers[ends[2]:ends[3]]
		for _, c := range calls() {
			want := c.do(input{slices.Clone(p), slices.Clone(cycles), 3})
			got := c.do(input{p, cycles, 3})
			if !got.same(want) {
				t.Fatal(c.name, ends, got, want)
			}
			scribble(got)
			if !slices.Equal(numbers, kept) {
				t.Fatal(c.name, "changed or answered what was handed in:", ends)
			}
		}
	}
}

// TestListsOfOneAnswerShareNothing: P2, the spare room included: each list is marked all over,
// and none of the marks is written over by another's.
func TestListsOfOneAnswerShareNothing(t *testing.T) {
	for _, c := range calls() {
		for _, in := range inputs() {
			lists := c.do(in).lists()
			for k, l := range lists {
				mark(l, k)
			}
			for k, l := range lists {
				if slices.ContainsFunc(l[:cap(l)], func(n int) bool { return n != k }) {
					t.Fatal(c.name, len(in.p), in.n, "two lists share room")
				}
			}
		}
	}
}

// TestErrorsComeAlone: with an error every other result is its zero value.
func TestErrorsComeAlone(t *testing.T) {
	for _, c := range calls() {
		errors, fine := 0, 0
		for _, in := range inputs() {
			got := c.do(in)
			if got.err == api.OK {
				fine++
				continue
			}
			errors++
			if got.strips != nil || got.rows != nil || got.number != 0 {
				t.Fatal(c.name, len(in.p), len(in.cycles), in.n, got)
			}
		}
		if errors == 0 || fine == 0 {
			t.Error(c.name, "has had no error, or nothing else:", errors, fine)
		}
	}
}

// TestLongLists: P1 of lists that no partition is as long as.
func TestLongLists(t *testing.T) {
	long := slices.Repeat([]int{1}, 1<<20)
	for _, c := range calls() {
		if got := c.do(input{long, long, 8}); c.name != "Table" && got.err != api.ErrLarge {
			t.Error(c.name, got.err)
		}
	}
}

// TestNoGoroutineIsLeft: P1.
func TestNoGoroutineIsLeft(t *testing.T) {
	before := runtime.NumGoroutine()
	for _, c := range calls() {
		for _, in := range inputs() {
			c.do(in)
		}
	}
	if after := runtime.NumGoroutine(); after > before {
		t.Error(before, after)
	}
}
