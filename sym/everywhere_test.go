package sym

import (
	"math"
	"runtime"
	"slices"
	"strings"
	"testing"

	"ferrers/api"
)

// input of any call: each takes of it what it needs.
type input struct {
	kind, to   int
	a, b       []api.Term
	p, content []int
}

// answer of any call.
type answer struct {
	number int
	text   string
	terms  []api.Term
	err    api.Errno
}

func (a answer) same(b answer) bool {
	return a.number == b.number && a.text == b.text && sameTerms(a.terms, b.terms) && a.err == b.err
}

func cloneTerms(l []api.Term) []api.Term {
	l = slices.Clone(l)
	for i, term := range l {
		l[i].Part = slices.Clone(term.Part)
	}
	return l
}

// clone keeps what was answered apart from what is scribbled over later.
func (a answer) clone() answer {
	a.terms = cloneTerms(a.terms)
	return a
}

// lists are all lists of numbers of an answer, those in the spare room of the list of terms included.
func (a answer) lists() [][]int {
	var lists [][]int
	for _, term := range a.terms[:cap(a.terms)] {
		lists = append(lists, term.Part)
	}
	return lists
}

type call struct {
	name string
	do   func(in input) answer
}

func calls() []call {
	return []call{
		{"Check", func(in input) answer {
			return answer{err: Check(in.kind, in.a)}
		}},
		{"Convert", func(in input) answer {
			l, err := Convert(in.kind, in.to, in.a)
			return answer{terms: l, err: err}
		}},
		{"Times", func(in input) answer {
			l, err := Times(in.kind, in.a, in.b)
			return answer{terms: l, err: err}
		}},
		{"Omega", func(in input) answer {
			l, err := Omega(in.kind, in.a)
			return answer{terms: l, err: err}
		}},
		{"Inner", func(in input) answer {
			text, err := Inner(in.kind, in.a, in.b)
			return answer{text: text, err: err}
		}},
		{"Kostka", func(in input) answer {
			n, err := Kostka(in.p, in.content)
			return answer{number: n, err: err}
		}},
	}
}

// inputs holds what each call can work with, and what it cannot.
func inputs() []input {
	var list []input
	add := func(i int, a, b []api.Term, p, content []int) {
		list = append(list, input{kinds[i%5], kinds[i/5%5], a, b, p, content})
	}
	fine := fineSums()
	shapes := shapes(5)
	for i, a := range fine {
		for j := range 5 {
			add(i*5+j, a, fine[(i+3*j)%len(fine)], shapes[i%7], shapes[(i+j)%7])
		}
	}
	for i, c := range badSums() {
		p := []int{2, 1}
		if len(c.l) > 0 {
			p = c.l[0].Part
		}
		add(i, c.l, fine[i%len(fine)], p, []int{3})
		add(i, fine[i%len(fine)], c.l, []int{3}, p)
		add(i, c.l, c.l, p, p)
	}
	for i, kind := range badKinds {
		list = append(list, input{kind, kinds[i%5], fine[i], fine[i], []int{9}, []int{9}}, input{kinds[i%5], kind, fine[i], nil, nil, []int{1}})
	}
	return list
}

const spare = 77

// roomy lays a list at the front of a longer one, whose rest is spare room.
func roomy(l []int) []int {
	return append(slices.Clone(l), spare, spare, spare, spare, spare)[:len(l)]
}

// roomyTerms does it for a list of terms and for each partition, those in the spare room included.
func roomyTerms(l []api.Term) []api.Term {
	list := make([]api.Term, 0, len(l)+3)
	for _, term := range l {
		list = append(list, api.Term{Part: roomy(term.Part), N: term.N})
	}
	for range 3 {
		list = append(list, api.Term{Part: roomy([]int{spare}), N: "77"})
	}
	return list[:len(l)]
}

// handed is the input with spare room behind each list.
func handed(in input) input {
	return input{in.kind, in.to, roomyTerms(in.a), roomyTerms(in.b), roomy(in.p), roomy(in.content)}
}

// whole shows all that an input has in memory, spare room included.
func whole(in input) []api.Term {
	list := []api.Term{{Part: in.p}, {Part: in.content}}
	list = append(append(list, in.a[:cap(in.a)]...), in.b[:cap(in.b)]...)
	for i, term := range list {
		list[i].Part = slices.Clone(term.Part[:cap(term.Part)])
	}
	return list
}

// mark writes over a list and over its spare room.
func mark[T any](l []T, with T) {
	l = l[:cap(l)]
	for i := range l {
		l[i] = with
	}
}

// scribble writes over all lists of an answer.
func scribble(a answer) {
	for _, list := range a.lists() {
		mark(list, -99)
	}
	mark(a.terms, api.Term{Part: []int{-98}, N: "-97"})
}

// shown is what can be read of an input.
func shown(in input) string {
	return strings.Join([]string{brief(in.a), brief(in.b), brief([]api.Term{{Part: in.p}, {Part: in.content}})}, " | ")
}

// TestInputsAreKeptApart: P2 of each call, and P1 in that each of them answers.
func TestInputsAreKeptApart(t *testing.T) {
	for _, c := range calls() {
		for _, in := range inputs() {
			given := handed(in)
			before := whole(given)
			got := c.do(given)
			want := got.clone()
			scribble(got)
			if !sameTerms(whole(given), before) {
				t.Fatal(c.name, "changed or answered what was handed in:", in.kind, in.to, shown(in))
			}
			if again := c.do(in); !again.same(want) {
				t.Fatal(c.name, "kept something, or hung on spare room:", in.kind, in.to, shown(in), want, again)
			}
		}
	}
}

// TestArgumentsMayBeOneList: lists that lie in one memory are no other than lists apart.
func TestArgumentsMayBeOneList(t *testing.T) {
	numbers := []int{4, 3, 2, 1, 1, 1, 1}
	terms := []api.Term{
		{Part: numbers[:1], N: "1/2"}, {Part: numbers[1:2], N: "1"}, {Part: numbers[2:4], N: "-2"}, {Part: numbers[3:6], N: "5/3"}, {Part: numbers[2:3], N: "7"}, {Part: numbers[3:5], N: "7"},
	}
	kept, keptTerms := slices.Clone(numbers), cloneTerms(terms)
	for _, ends := range [][4]int{{0, 1, 0, 1}, {1, 4, 1, 4}, {1, 4, 2, 4}, {4, 6, 4, 6}, {1, 3, 4, 6}, {2, 2, 1, 4}, {0, 6, 0, 6}} {
		for _, kind := range kinds {
			for _, to := range kinds {
				in := input{kind, to, terms[ends[0]:ends[1]], terms[ends[2]:ends[3]], numbers[1:4], numbers[1:4]}
				for _, c := range calls() {
					want := c.do(input{kind, to, cloneTerms(in.a), cloneTerms(in.b), slices.Clone(in.p), slices.Clone(in.content)})
					got := c.do(in)
					if !got.same(want) {
						t.Fatal(c.name, kind, to, ends, got, want)
					}
					scribble(got)
					if !slices.Equal(numbers, kept) || !sameTerms(terms, keptTerms) {
						t.Fatal(c.name, "changed or answered what was handed in:", kind, to, ends)
					}
				}
			}
		}
	}
}

// TestListsOfOneAnswerShareNothing: P2, the spare room included: each list is marked all over,
// and none of the marks is written over by another's.
func TestListsOfOneAnswerShareNothing(t *testing.T) {
	for _, c := range calls() {
		for _, in := range inputs() {
			lists := c.do(in).lists()
			for k, l := range lists {
				mark(l, k)
			}
			for k, l := range lists {
				if slices.ContainsFunc(l[:cap(l)], func(n int) bool { return n != k }) {
					t.Fatal(c.name, in.kind, in.to, shown(in), "two lists share room")
				}
			}
		}
	}
}

// TestErrorsComeAlone: with an error every other result is its zero value.
func TestErrorsComeAlone(t *testing.T) {
	for _, c := range calls() {
		errors, fine := 0, 0
		for _, in := range inputs() {
			got := c.do(in)
			if got.err == api.OK {
				fine++
				continue
			}
			errors++
			if got.number != 0 || got.text != "" || got.terms != nil {
				t.Fatal(c.name, in.kind, in.to, shown(in), got)
			}
		}
		if errors == 0 || fine == 0 {
			t.Error(c.name, "has had no error, or nothing else:", errors, fine)
		}
	}
}

// TestLongLists: P1 of lists that no sum is as long as.
func TestLongLists(t *testing.T) {
	long := slices.Repeat(sumOf([]int{1}, "1"), 1<<18)
	// Whole numbers of many digits in as many terms as the size 40 has partitions that begin with a great part.
	var greatest []api.Term
	for k := 40; k > 20; k-- {
		for _, p := range shapes(40 - k) {
			greatest = append(greatest, api.Term{Part: append([]int{k}, p...), N: strings.Repeat("7", 99) + "/" + "1" + strings.Repeat("0", 99)})
		}
	}
	for _, c := range []bad{{long, api.ErrArg}, {greatest, api.ErrLarge}, {sumOf([]int{1}, strings.Repeat("1", 1<<24)), api.ErrArg}, {sumOf(make([]int, 1<<20), "1"), api.ErrArg}} {
		in := input{api.Schur, api.Monomial, c.l, c.l, c.l[0].Part, []int{math.MaxInt}}
		for _, call := range calls()[:5] {
			if got := call.do(in); got.err != c.want {
				t.Error(call.name, brief(c.l[:1]), got.err, c.want)
			}
		}
	}
}

// TestNoGoroutineIsLeft: P1.
func TestNoGoroutineIsLeft(t *testing.T) {
	before := runtime.NumGoroutine()
	for _, c := range calls() {
		for _, in := range inputs() {
			c.do(in)
		}
	}
	if after := runtime.NumGoroutine(); after > before {
		t.Error(before, after)
	}
}
