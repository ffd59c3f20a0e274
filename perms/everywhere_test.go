package perms

import (
	"math"
	"runtime"
	"slices"
	"testing"

	"ferrers/api"
)

// answer of any call: its list, and the rest of it.
type answer struct {
	list    []int
	numbers [2]int
	yes     bool
	err     api.Errno
}

func (a answer) same(b answer) bool {
	return slices.Equal(a.list, b.list) && a.numbers == b.numbers && a.yes == b.yes && a.err == b.err
}

// clone keeps what was answered apart from what is scribbled over later.
func (a answer) clone() answer {
	a.list = slices.Clone(a.list)
	return a
}

type call struct {
	name string
	do   func(a, b []int) answer
}

// ofOne makes a call of one that takes a list and answers one.
func ofOne(name string, do func([]int) ([]int, api.Errno)) call {
	return call{name, func(a, b []int) answer {
		list, err := do(a)
		return answer{list: list, err: err}
	}}
}

func calls() []call {
	return []call{
		{"Check", func(a, b []int) answer { return answer{err: Check(a)} }},
		{"Letters", func(a, b []int) answer { return answer{err: Letters(a)} }},
		ofOne("Inverse", Inverse), ofOne("Code", Code), ofOne("FromCode", FromCode), ofOne("Word", Word),
		ofOne("Rounds", Rounds), ofOne("Unrounds", Unrounds), ofOne("Fold", Fold), ofOne("Unfold", Unfold),
		{"Times", func(a, b []int) answer {
			list, err := Times(a, b)
			return answer{list: list, err: err}
		}},
		{"Measure", func(a, b []int) answer {
			inversions, major, descents, err := Measure(a)
			return answer{list: descents, numbers: [2]int{inversions, major}, err: err}
		}},
		{"Product", func(a, b []int) answer {
			list, err := Product(len(a), b)
			return answer{list: list, err: err}
		}},
		{"Below", func(a, b []int) answer {
			yes, err := Below(a, b)
			return answer{yes: yes, err: err}
		}},
	}
}

// inputs holds permutations, words, codes and lists that are none of these.
func inputs() [][]int {
	list := append(longPermutations(), longWords()...)
	eachPermutation(4, func(p []int) { list = append(list, p) })
	eachWord(3, 3, func(w []int) { list = append(list, w) })
	for _, bad := range badPermutations() {
		list = append(list, bad...)
	}
	for _, bad := range badWords() {
		list = append(list, bad...)
	}
	return append(list, nil, []int{2, 1, 0}, []int{math.MinInt, math.MaxInt}, make([]int, 40), make([]int, 1<<16))
}

// roomy lays a list at the front of a longer one, whose rest is spare room.
func roomy(l []int) (list, whole []int) {
	whole = append(slices.Clone(l), 77, 77, 77, 77, 77)
	return whole[:len(l)], whole
}

// scribble writes over a list and over its spare room.
func scribble(l []int) {
	l = l[:cap(l)]
	for i := range l {
		l[i] = -99
	}
}

// pairs hands on each input with a few others, one of its own length among them.
func pairs(do func(a, b []int)) {
	list := inputs()
	for i, a := range list {
		do(a, list[(i+1)%len(list)])
		do(a, list[(i*7+3)%len(list)])
		backwards := slices.Clone(a)
		slices.Reverse(backwards)
		do(a, backwards)
	}
}

// TestInputsAreKeptApart: P2 of each call, and P1 in that each of them answers.
func TestInputsAreKeptApart(t *testing.T) {
	for _, c := range calls() {
		pairs(func(first, second []int) {
			a, wholeA := roomy(first)
			b, wholeB := roomy(second)
			beforeA, beforeB := slices.Clone(wholeA), slices.Clone(wholeB)
			got := c.do(a, b)
			want := got.clone()
			scribble(got.list)
			if !slices.Equal(wholeA, beforeA) || !slices.Equal(wholeB, beforeB) {
				t.Fatal(c.name, "changed or answered what was handed in:", first, second)
			}
			if again := c.do(first, second); !again.same(want) {
				t.Fatal(c.name, "kept something, or hung on spare room:", first, second, want, again)
			}
		})
	}
}

// TestArgumentsMayBeOneList: a list that is handed in twice is no other than two lists.
func TestArgumentsMayBeOneList(t *testing.T) {
	for _, l := range inputs() {
		for _, c := range calls() {
			want := c.do(slices.Clone(l), slices.Clone(l)).clone()
			if got := c.do(l, l); !got.same(want) {
				t.Fatal(c.name, l, got, want)
			}
		}
	}
}

// TestErrorsComeAlone: with an error every other result is its zero value.
func TestErrorsComeAlone(t *testing.T) {
	for _, c := range calls() {
		pairs(func(a, b []int) {
			got := c.do(a, b)
			if got.err != api.OK && (got.list != nil || got.numbers != [2]int{} || got.yes) {
				t.Fatal(c.name, a, b, got)
			}
		})
	}
}

// TestNoGoroutineIsLeft: P1.
func TestNoGoroutineIsLeft(t *testing.T) {
	before := runtime.NumGoroutine()
	for _, c := range calls() {
		pairs(func(a, b []int) { c.do(a, b) })
	}
	if after := runtime.NumGoroutine(); after > before {
		t.Error(before, after)
	}
}
