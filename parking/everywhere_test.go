package parking

import (
	"math"
	"math/rand"
	"runtime"
	"slices"
	"testing"

	"ferrers/api"
)

// input of any call: each takes of it what it needs.
type input struct {
	list  []int
	edges []api.Pair
	n     int
}

// answer of any call.
type answer struct {
	number int
	text   string
	list   []int
	edges  []api.Pair
	err    api.Errno
}

func (a answer) same(b answer) bool {
	return a.number == b.number && a.text == b.text && slices.Equal(a.list, b.list) &&
		slices.Equal(a.edges, b.edges) && a.err == b.err
}

// clone keeps what was answered apart from what is scribbled over later.
func (a answer) clone() answer {
	a.list, a.edges = slices.Clone(a.list), slices.Clone(a.edges)
	return a
}

type call struct {
	name string
	do   func(in input) answer
}

func calls() []call {
	ofList := func(list []int, err api.Errno) answer { return answer{list: list, err: err} }
	ofEdges := func(edges []api.Pair, err api.Errno) answer { return answer{edges: edges, err: err} }
	ofText := func(text string, err api.Errno) answer { return answer{text: text, err: err} }
	ofNumber := func(number int, err api.Errno) answer { return answer{number: number, err: err} }
	return []call{
		{"Check", func(in input) answer { return answer{err: Check(in.list)} }},
		{"Park", func(in input) answer { return ofList(Park(in.list)) }},
		{"Count", func(in input) answer { return ofText(Count(in.n)) }},
		{"Lucky", func(in input) answer { return ofNumber(Lucky(in.list)) }},
		{"Code", func(in input) answer { return ofList(Code(in.edges)) }},
		{"Tree", func(in input) answer { return ofEdges(Tree(in.list)) }},
		{"Rooted", func(in input) answer { return ofEdges(Rooted(in.list)) }},
		{"Unrooted", func(in input) answer { return ofList(Unrooted(in.edges)) }},
		{"Spanning", func(in input) answer { return ofText(Spanning(in.n, in.edges)) }},
		{"Rounds", func(in input) answer { return ofText(Rounds(in.n, in.edges)) }},
	}
}

// lists holds what the calls of lists can work with, and what they cannot.
func lists() [][]int {
	r := rand.New(rand.NewSource(10))
	list := [][]int{nil, {}, {0}, {-1}, {math.MaxInt}, {math.MinInt, 1}, {2, 2}, {1, math.MaxInt, math.MinInt}}
	for n := 1; n <= 22; n++ {
		list = append(list, countUp(1, n), countUp(2, n+1), backward(countUp(1, n)), slices.Repeat([]int{1}, n))
		for range 5 {
			list = append(list, randomList(r, n, n), randomList(r, n, n+2))
		}
	}
	return append(list, slices.Repeat([]int{1}, 3000))
}

// graphs holds what the calls of edges can work with, and what they cannot.
func graphs() [][]api.Pair {
	r := rand.New(rand.NewSource(11))
	list := [][]api.Pair{nil, {}, pairs(0, 0), pairs(math.MinInt, math.MaxInt), pairs(1, 2, 2, math.MinInt), pairs(1, -1)}
	for n := 2; n <= 22; n++ {
		list = append(list, chain(0, n), chain(1, n), star(0, n, 1), star(1, n, n), ring(n))
		list = append(list, mixed(r, chain(0, n-1)), mixed(r, star(1, n, 2)), bothWays(ring(n)))
		list = append(list, randomEdges(r, n, n-1), randomEdges(r, min(n, 10), 3*n), randomRound(r, n, n))
	}
	return append(list, slices.Repeat(pairs(1, 2), 3000))
}

// inputs lays lists, edges and numbers beside one another.
func inputs() []input {
	numbers := []int{10, 1, 2, 3, 4, 5, 9, 10, 0, 60, 61, 11, -1, math.MinInt, math.MaxInt, 7, 10}
	someLists, someGraphs := lists(), graphs()
	var list []input
	for k := range max(len(someLists), len(someGraphs)) {
		for _, step := range []int{0, 1, 5, 8} {
			list = append(list, input{
				someLists[k%len(someLists)], someGraphs[k%len(someGraphs)], numbers[(k+step)%len(numbers)],
			})
		}
	}
	return list
}

// roomy lays a list at the front of a longer one, whose rest is spare room.
func roomy[T any](l []T, rest T) []T {
	return append(slices.Clone(l), rest, rest, rest, rest, rest)[:len(l)]
}

// whole shows all of a list, spare room included.
func whole[T any](l []T) []T {
	return slices.Clone(l[:cap(l)])
}

// mark writes over a list and over its spare room.
func mark[T any](l []T, with T) {
	l = l[:cap(l)]
	for i := range l {
		l[i] = with
	}
}

// TestInputsAreKeptApart: P2 of each call, and P1 in that each of them answers.
func TestInputsAreKeptApart(t *testing.T) {
	for _, c := range calls() {
		for _, in := range inputs() {
			given := input{roomy(in.list, 1), roomy(in.edges, api.Pair{A: 1, B: 2}), in.n}
			list, edges := whole(given.list), whole(given.edges)
			got := c.do(given)
			want := got.clone()
			mark(got.list, -96)
			mark(got.edges, api.Pair{A: -97, B: -98})
			if !slices.Equal(whole(given.list), list) || !slices.Equal(whole(given.edges), edges) {
				t.Fatal(c.name, "changed or answered what was handed in:", in)
			}
			if again := c.do(in); !again.same(want) {
				t.Fatal(c.name, "kept something, or hung on spare room:", in, want, again)
			}
		}
	}
}

// TestErrorsComeAlone: with an error every other result is its zero value.
func TestErrorsComeAlone(t *testing.T) {
	for _, c := range calls() {
		errors, fine := 0, 0
		for _, in := range inputs() {
			got := c.do(in)
			if got.err == api.OK {
				fine++
				continue
			}
			errors++
			if got.number != 0 || got.text != "" || got.list != nil || got.edges != nil {
				t.Fatal(c.name, in, got)
			}
		}
		if errors < 20 || fine < 20 {
			t.Error(c.name, "has had few errors, or little else:", errors, fine)
		}
	}
}

// TestNoGoroutineIsLeft: P1.
func TestNoGoroutineIsLeft(t *testing.T) {
	before := runtime.NumGoroutine()
	for _, c := range calls() {
		for _, in := range inputs() {
			c.do(in)
		}
	}
	if after := runtime.NumGoroutine(); after > before {
		t.Error(before, after)
	}
}
