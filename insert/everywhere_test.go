package insert

import (
	"math"
	"runtime"
	"slices"
	"testing"

	"ferrers/api"
)

// input of any call: each takes of it what it needs.
type input struct {
	p, q  [][]int
	list  []int
	x     int
	pairs []api.Pair
}

// answer of any call: its lists, and the rest of it.
type answer struct {
	list   []int
	p, q   [][]int
	pairs  []api.Pair
	number int
	err    api.Errno
}

func (a answer) same(b answer) bool {
	return slices.Equal(a.list, b.list) && sameRows(a.p, b.p) && sameRows(a.q, b.q) &&
		slices.Equal(a.pairs, b.pairs) && a.number == b.number && a.err == b.err
}

// clone keeps what was answered apart from what is scribbled over later.
func (a answer) clone() answer {
	a.list, a.pairs = slices.Clone(a.list), slices.Clone(a.pairs)
	a.p, a.q = cloneRows(a.p), cloneRows(a.q)
	return a
}

func cloneRows(t [][]int) [][]int {
	t = slices.Clone(t)
	for i, row := range t {
		t[i] = slices.Clone(row)
	}
	return t
}

// numbers lists the lists of numbers of an answer.
func (a answer) numbers() [][]int {
	return slices.Concat([][]int{a.list}, a.p, a.q)
}

type call struct {
	name string
	do   func(in input) answer
}

// putting makes a call of one that puts a letter into a tableau, counting of one that counts letters.
func putting(name string, do func([][]int, int) ([][]int, int, api.Errno)) call {
	return call{name, func(in input) answer {
		p, number, err := do(in.p, in.x)
		return answer{p: p, number: number, err: err}
	}}
}

func counting(name string, do func([]int, int) (int, api.Errno)) call {
	return call{name, func(in input) answer {
		number, err := do(in.list, in.x)
		return answer{number: number, err: err}
	}}
}

func calls() []call {
	return []call{
		putting("Insert", Insert), putting("InsertLeft", InsertLeft), counting("Rising", Rising), counting("Falling", Falling),
		{"Make", func(in input) answer {
			p, q, err := Make(in.list)
			return answer{p: p, q: q, err: err}
		}},
		{"Back", func(in input) answer {
			list, err := Back(in.p, in.q)
			return answer{list: list, err: err}
		}},
		{"MakePairs", func(in input) answer {
			p, q, err := MakePairs(in.pairs)
			return answer{p: p, q: q, err: err}
		}},
		{"BackPairs", func(in input) answer {
			pairs, err := BackPairs(in.p, in.q)
			return answer{pairs: pairs, err: err}
		}},
		{"Moves", func(in input) answer {
			p, err := Moves(in.list)
			return answer{p: p, err: err}
		}},
		{"Longest", func(in input) answer {
			list, err := Longest(in.list)
			return answer{list: list, err: err}
		}},
	}
}

// someWords are words, and lists that are none.
func someWords() [][]int {
	list := longWords()
	eachWord(4, 3, func(w []int) { list = append(list, w) })
	for _, bad := range badWords() {
		list = append(list, bad...)
	}
	return list
}

// somePairs are lists of pairs in order, and others.
func somePairs() [][]api.Pair {
	list := [][]api.Pair{nil}
	for k := range 200 {
		var l []api.Pair
		for i := range k % 41 {
			l = append(l, api.Pair{A: 1 + i*k%7, B: 1 + i*i*k%11})
		}
		list = append(list, inOrder(l))
	}
	for _, bad := range badPairs() {
		list = append(list, bad...)
	}
	return list
}

// inputs holds what each call can work with, and what it cannot.
func inputs() []input {
	var list []input
	xs := []int{1, 2, 3, 99, 0, 100, -1, math.MinInt, math.MaxInt}
	words, pairs := someWords(), somePairs()
	for i, w := range words {
		in := input{list: w, x: xs[i%len(xs)], pairs: pairs[i%len(pairs)]}
		in.p, in.q, _ = Make(w)
		list = append(list, in)
	}
	eachTableau(4, 3, func(t [][]int) {
		i := len(list)
		list = append(list, input{p: t, q: t, list: words[i%len(words)], x: 1 + i%5, pairs: pairs[i%len(pairs)]})
	})
	for _, bad := range badTableaux() {
		for i, t := range bad {
			fine := [][]int{{1}}
			list = append(list, input{p: t, q: fine, x: xs[i%len(xs)], pairs: pairs[i]}, input{p: fine, q: t, x: 1})
		}
	}
	for i, t := range greatTableaux() {
		list = append(list, input{p: t, q: t, x: xs[i%4]}, input{p: t, x: xs[i]})
	}
	return list
}

const spare = 77

// roomy lays a list at the front of a longer one, whose rest is spare room.
func roomy[T any](l []T, rest T) []T {
	return append(slices.Clone(l), rest, rest, rest, rest, rest)[:len(l)]
}

// roomyRows does so with the rows, and with their list.
func roomyRows(t [][]int) [][]int {
	r := roomy(t, []int{spare})
	for i, row := range r {
		r[i] = roomy(row, spare)
	}
	return r
}

// handed is the input with spare room behind each list.
func handed(in input) input {
	return input{roomyRows(in.p), roomyRows(in.q), roomy(in.list, spare), in.x, roomy(in.pairs, api.Pair{A: spare, B: spare})}
}

// whole shows all of an input, spare room included.
func whole(in input) input {
	all := func(t [][]int) [][]int {
		t = slices.Clone(t[:cap(t)])
		for i, row := range t {
			t[i] = slices.Clone(row[:cap(row)])
		}
		return t
	}
	return input{all(in.p), all(in.q), slices.Clone(in.list[:cap(in.list)]), in.x, slices.Clone(in.pairs[:cap(in.pairs)])}
}

func sameInputs(a, b input) bool {
	return sameRows(a.p, b.p) && sameRows(a.q, b.q) && slices.Equal(a.list, b.list) && a.x == b.x && slices.Equal(a.pairs, b.pairs)
}

// mark writes over a list and over its spare room.
func mark[T any](l []T, with T) {
	l = l[:cap(l)]
	for i := range l {
		l[i] = with
	}
}

// scribble writes over all lists of an answer.
func scribble(a answer) {
	for _, l := range a.numbers() {
		mark(l, -99)
	}
	mark(a.p, []int{-98})
	mark(a.q, []int{-98})
	mark(a.pairs, api.Pair{A: -97, B: -97})
}

// TestInputsAreKeptApart: P2 of each call, and P1 in that each of them answers.
func TestInputsAreKeptApart(t *testing.T) {
	for _, c := range calls() {
		for _, in := range inputs() {
			given := handed(in)
			before := whole(given)
			got := c.do(given)
			want := got.clone()
			scribble(got)
			if !sameInputs(whole(given), before) {
				t.Fatal(c.name, "changed or answered what was handed in:", in)
			}
			if again := c.do(in); !again.same(want) {
				t.Fatal(c.name, "kept something, or hung on spare room:", in, want, again)
			}
		}
	}
}

// TestArgumentsMayBeOneList: lists that lie in one memory are no other than lists apart.
func TestArgumentsMayBeOneList(t *testing.T) {
	letters := rowFrom(1, 40)
	for _, rows := range [][][]int{
		{letters[:3], letters[3:5], letters[5:6]}, {letters[:3], letters[1:3], letters[2:3]}, {letters[:2], letters[:2]}, {letters[:4], letters[1:2]},
	} {
		for _, c := range calls() {
			want := c.do(input{p: cloneRows(rows), q: cloneRows(rows), list: rowFrom(1, 5), x: 2}).clone()
			got := c.do(input{p: rows, q: rows, list: letters[:5], x: 2})
			if !got.same(want) {
				t.Fatal(c.name, rows, got, want)
			}
			scribble(got)
			if !slices.Equal(letters, rowFrom(1, 40)) {
				t.Fatal(c.name, "changed or answered what was handed in:", rows)
			}
		}
	}
}

// TestListsOfOneAnswerShareNothing: P2, the spare room included: each list is marked all over,
// and none of the marks is written over by another's.
func TestListsOfOneAnswerShareNothing(t *testing.T) {
	for _, c := range calls() {
		for _, in := range inputs() {
			got := c.do(in)
			lists := got.numbers()
			for k, l := range lists {
				mark(l, k)
			}
			for k, l := range lists {
				if slices.ContainsFunc(l[:cap(l)], func(n int) bool { return n != k }) {
					t.Fatal(c.name, in, "two lists share room")
				}
			}
			mark(got.p, []int{1})
			mark(got.q, []int{2})
			if slices.ContainsFunc(got.p[:cap(got.p)], func(row []int) bool { return row[0] != 1 }) {
				t.Fatal(c.name, in, "two lists of rows share room")
			}
		}
	}
}

// TestErrorsComeAlone: with an error every other result is its zero value.
func TestErrorsComeAlone(t *testing.T) {
	for _, c := range calls() {
		errors, fine := 0, 0
		for _, in := range inputs() {
			got := c.do(in)
			if got.err == api.OK {
				fine++
				continue
			}
			errors++
			if got.list != nil || got.p != nil || got.q != nil || got.pairs != nil || got.number != 0 {
				t.Fatal(c.name, in, got)
			}
		}
		if errors == 0 || fine == 0 {
			t.Error(c.name, "has had no error, or nothing else:", errors, fine)
		}
	}
}

// TestNoGoroutineIsLeft: P1.
func TestNoGoroutineIsLeft(t *testing.T) {
	before := runtime.NumGoroutine()
	for _, c := range calls() {
		for _, in := range inputs() {
			c.do(in)
		}
	}
	if after := runtime.NumGoroutine(); after > before {
		t.Error(before, after)
	}
}
