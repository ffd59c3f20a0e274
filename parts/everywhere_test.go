package parts

import (
	"math"
	"runtime"
	"slices"
	"testing"

	"ferrers/api"
)

// answer of any call: its lists, and the rest of it.
type answer struct {
	lists [][]int
	yes   bool
	text  string
	err   api.Errno
}

func (a answer) same(b answer) bool {
	return slices.EqualFunc(a.lists, b.lists, slices.Equal) && a.yes == b.yes && a.text == b.text && a.err == b.err
}

// clone keeps what was answered apart from what is scribbled over later.
func (a answer) clone() answer {
	lists := make([][]int, len(a.lists))
	for i, l := range a.lists {
		lists[i] = slices.Clone(l)
	}
	a.lists = lists
	return a
}

type call struct {
	name string
	do   func(a, b []int) answer
}

func calls() []call {
	return []call{
		{"Check", func(a, b []int) answer { return answer{err: Check(a)} }},
		{"Conjugate", func(a, b []int) answer {
			p, err := Conjugate(a)
			return answer{lists: [][]int{p}, err: err}
		}},
		{"Dominates", func(a, b []int) answer {
			yes, err := Dominates(a, b)
			return answer{yes: yes, err: err}
		}},
		{"Frobenius", func(a, b []int) answer {
			arms, legs, err := Frobenius(a)
			return answer{lists: [][]int{arms, legs}, err: err}
		}},
		{"FromFrobenius", func(a, b []int) answer {
			p, err := FromFrobenius(a, b)
			return answer{lists: [][]int{p}, err: err}
		}},
		{"Merge", func(a, b []int) answer {
			p, err := Merge(a)
			return answer{lists: [][]int{p}, err: err}
		}},
		{"Split", func(a, b []int) answer {
			p, err := Split(a)
			return answer{lists: [][]int{p}, err: err}
		}},
		{"Franklin", func(a, b []int) answer {
			p, moved, err := Franklin(a)
			return answer{lists: [][]int{p}, yes: moved, err: err}
		}},
		{"Count", func(a, b []int) answer {
			text, err := Count(len(a))
			return answer{text: text, err: err}
		}},
		{"All", func(a, b []int) answer {
			lists, err := All(len(a))
			return answer{lists: lists, err: err}
		}},
	}
}

// inputs holds partitions and lists that are none.
func inputs(t *testing.T) [][]int {
	list := upTo(t, 7)
	for _, bad := range badPartitions() {
		list = append(list, bad...)
	}
	return append(list, nil, []int{2, 1, 0}, []int{0, 1}, []int{math.MinInt, math.MaxInt}, slices.Repeat([]int{1}, 1<<16))
}

// roomy lays a list at the front of a longer one, whose rest is spare room.
func roomy(l []int) (list, whole []int) {
	whole = append(slices.Clone(l), 77, 77, 77, 77, 77)
	return whole[:len(l)], whole
}

// scribble writes over a list and over its spare room.
func scribble(l []int) {
	l = l[:cap(l)]
	for i := range l {
		l[i] = -99
	}
}

// TestInputsAreKeptApart: P2 of each call, and P1 in that each of them answers.
func TestInputsAreKeptApart(t *testing.T) {
	list := inputs(t)
	for _, c := range calls() {
		for i, first := range list {
			second := list[(i*7+3)%len(list)]
			a, wholeA := roomy(first)
			b, wholeB := roomy(second)
			beforeA, beforeB := slices.Clone(wholeA), slices.Clone(wholeB)
			got := c.do(a, b)
			want := got.clone()
			for _, l := range got.lists {
				scribble(l)
			}
			if !slices.Equal(wholeA, beforeA) || !slices.Equal(wholeB, beforeB) {
				t.Fatal(c.name, "changed or answered what was handed in:", first, second)
			}
			if again := c.do(first, second); !again.same(want) {
				t.Fatal(c.name, "kept something, or hung on spare room:", first, second, want, again)
			}
		}
	}
}

// TestArgumentsMayBeOneList: a list that is handed in twice is no other than two lists.
func TestArgumentsMayBeOneList(t *testing.T) {
	for _, l := range inputs(t) {
		for _, c := range calls() {
			want := c.do(slices.Clone(l), slices.Clone(l)).clone()
			if got := c.do(l, l); !got.same(want) {
				t.Fatal(c.name, l, got, want)
			}
		}
	}
}

// TestListsOfOneAnswerShareNothing: P2, the spare room included.
func TestListsOfOneAnswerShareNothing(t *testing.T) {
	list := upTo(t, 12)
	for _, p := range list {
		for _, c := range calls() {
			got := c.do(p, nil)
			for i, l := range got.lists {
				want := got.clone()
				scribble(l)
				for j, other := range got.lists {
					if j != i && !slices.Equal(other, want.lists[j]) {
						t.Fatal(c.name, p, i, j)
					}
				}
			}
			for i, l := range got.lists {
				for j := range cap(l) {
					l[:cap(l)][j] = i
				}
			}
			for i, l := range got.lists {
				if slices.ContainsFunc(l[:cap(l)], func(x int) bool { return x != i }) {
					t.Fatal(c.name, p, "shares spare room", i)
				}
			}
		}
	}
}

// TestRowsOfAllAreApart looks at the list of lists too: it is new with each call.
func TestRowsOfAllAreApart(t *testing.T) {
	first, _ := All(8)
	want := answer{lists: first}.clone()
	for i := range first {
		first[i] = nil
	}
	if second, err := All(8); err != api.OK || !slices.EqualFunc(second, want.lists, slices.Equal) {
		t.Error(second, err)
	}
}

// TestNoGoroutineIsLeft: P1.
func TestNoGoroutineIsLeft(t *testing.T) {
	before := runtime.NumGoroutine()
	for _, l := range inputs(t) {
		for _, c := range calls() {
			c.do(l, l)
		}
	}
	if after := runtime.NumGoroutine(); after > before {
		t.Error(before, after)
	}
}
