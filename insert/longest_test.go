package insert

import (
	"math"
	"slices"
	"testing"

	"ferrers/api"
)

func TestGreeneExamples(t *testing.T) {
	for _, c := range []struct {
		w               []int
		k               int
		rising, falling int
	}{
		{nil, 0, 0, 0},
		{nil, 1, 0, 0},
		{nil, math.MaxInt, 0, 0},
		{[]int{7}, 0, 0, 0},
		{[]int{7}, 1, 1, 1},
		{[]int{7}, math.MaxInt, 1, 1},
		{[]int{4, 1, 5, 2, 6, 3}, 1, 3, 2},
		{[]int{4, 1, 5, 2, 6, 3}, 2, 6, 4},
		{[]int{4, 1, 5, 2, 6, 3}, 3, 6, 6},
		// 2 4 5 6 8 is the longest one, but neither of the two that have the most together, 2 4 7 9 and 1 3 6 8.
		{[]int{2, 4, 7, 9, 5, 1, 3, 6, 8}, 0, 0, 0},
		{[]int{2, 4, 7, 9, 5, 1, 3, 6, 8}, 1, 5, 3},
		{[]int{2, 4, 7, 9, 5, 1, 3, 6, 8}, 2, 8, 5},
		{[]int{2, 4, 7, 9, 5, 1, 3, 6, 8}, 3, 9, 7},
		{[]int{1, 1, 1}, 1, 3, 1},
		{[]int{1, 1, 1}, 2, 3, 2},
		{[]int{3, 2, 1}, 1, 1, 3},
		{[]int{2, 1, 2, 1}, 1, 2, 2},
		{[]int{2, 1, 2, 1}, 2, 4, 4},
		{rowFrom(60, 40), 1, 40, 1},
		{rowFrom(60, 40), 39, 40, 39},
		{slices.Repeat([]int{99, 1}, 20), 1, 20, 2},
	} {
		if n, err := Rising(c.w, c.k); err != api.OK || n != c.rising {
			t.Error("Rising", c.w, c.k, n, err, c.rising)
		}
		if n, err := Falling(c.w, c.k); err != api.OK || n != c.falling {
			t.Error("Falling", c.w, c.k, n, err, c.falling)
		}
	}
}

// most tells how many letters of w k subsequences have together, by trying all ways to give each
// letter to one of them, or to none; follows tells whether a letter may stand behind another.
func most(w []int, k int, follows func(ahead, letter int) bool) int {
	lasts := make([]int, k)
	var from func(i int) int
	from = func(i int) int {
		if i == len(w) {
			return 0
		}
		best := from(i + 1)
		for s, last := range lasts {
			if last == 0 || follows(last, w[i]) {
				lasts[s] = w[i]
				best = max(best, 1+from(i+1))
				lasts[s] = last
			}
			if last == 0 {
				// Which of those that have not begun is taken makes no difference.
				break
			}
		}
		return best
	}
	return from(0)
}

func neverFalls(ahead, letter int) bool  { return letter >= ahead }
func alwaysFalls(ahead, letter int) bool { return letter < ahead }

// checkGreene holds what P16 says of Rising and Falling against one word.
func checkGreene(t *testing.T, w []int) {
	t.Helper()
	for k := range 5 {
		if n, err := Rising(w, k); err != api.OK || n != most(w, k, neverFalls) {
			t.Fatal("Rising", w, k, n, err)
		}
		if n, err := Falling(w, k); err != api.OK || n != most(w, k, alwaysFalls) {
			t.Fatal("Falling", w, k, n, err)
		}
	}
}

func TestGreene(t *testing.T) {
	eachWord(6, 3, func(w []int) { checkGreene(t, w) })
	eachPermutation(6, func(w []int) { checkGreene(t, w) })
	for _, w := range longWords() {
		checkGreene(t, w[:9])
	}
}

// TestAllSubsequences: k that is great enough has all letters, and 1 more never less.
func TestAllSubsequences(t *testing.T) {
	for _, w := range longWords() {
		for _, call := range []func([]int, int) (int, api.Errno){Rising, Falling} {
			before := 0
			for k := range 42 {
				n, err := call(w, k)
				if err != api.OK || n < before || n < min(k, len(w)) {
					t.Fatal(w, k, n, err)
				}
				before = n
			}
			for _, k := range []int{40, 41, 1 << 32, math.MaxInt} {
				if n, err := call(w, k); err != api.OK || n != len(w) {
					t.Fatal(w, k, n, err)
				}
			}
		}
	}
}

func TestGreeneErrors(t *testing.T) {
	check := func(w []int, k int, want api.Errno) {
		t.Helper()
		if n, err := Rising(w, k); n != 0 || err != want {
			t.Error("Rising", brief([][]int{w}), k, n, err, want)
		}
		if n, err := Falling(w, k); n != 0 || err != want {
			t.Error("Falling", brief([][]int{w}), k, n, err, want)
		}
	}
	for want, list := range badWords() {
		for _, w := range list {
			for _, k := range []int{1, 0, -1, math.MinInt, math.MaxInt} {
				check(w, k, want)
			}
		}
	}
	for _, w := range append(longWords(), nil, []int{1}) {
		for _, k := range []int{-1, -2, math.MinInt} {
			check(w, k, api.ErrArg)
		}
	}
}

func TestLongestExamples(t *testing.T) {
	for _, c := range []struct{ w, want []int }{
		{nil, nil},
		{[]int{5}, []int{1}},
		{[]int{2, 1}, []int{1}},
		{[]int{1, 1}, []int{1, 2}},
		{[]int{3, 2, 1}, []int{1}},
		{[]int{4, 1, 5, 2, 6, 3}, []int{1, 3, 5}},
		{[]int{4, 1, 5, 2, 3}, []int{2, 4, 5}},
		{[]int{3, 1, 2, 1, 2}, []int{2, 3, 5}},
		{[]int{1, 3, 2, 3}, []int{1, 2, 4}},
		{[]int{9, 1, 8, 2, 7, 3, 99}, []int{2, 4, 5, 7}},
		{[]int{99, 99, 1, 1}, []int{1, 2}},
		{rowFrom(60, 40), rowFrom(1, 40)},
	} {
		if places, err := Longest(c.w); err != api.OK || !slices.Equal(places, c.want) {
			t.Error(c.w, places, err, c.want)
		}
	}
}

// firstLongest is P16 by all subsequences: of the longest ones that never fall the one with the
// lesser places.
func firstLongest(w []int) []int {
	var best []int
	for set := range 1 << len(w) {
		var places []int
		last, falls := 0, false
		for i, letter := range w {
			if set>>i&1 == 1 {
				falls = falls || letter < last
				last = letter
				places = append(places, i+1)
			}
		}
		if falls || len(places) < len(best) {
			continue
		}
		if len(places) > len(best) || slices.Compare(places, best) < 0 {
			best = places
		}
	}
	return best
}

func TestLongest(t *testing.T) {
	check := func(w []int) {
		t.Helper()
		if places, err := Longest(w); err != api.OK || !slices.Equal(places, firstLongest(w)) {
			t.Fatal(w, places, err)
		}
	}
	eachWord(7, 3, check)
	eachPermutation(7, check)
	for _, w := range longWords() {
		check(w[:12])
		check(w[len(w)-11:])
	}
}

// longestFrom tells how long a subsequence can be that never falls and has no letter less than that.
func longestFrom(w []int, least int) int {
	var rest []int
	for _, letter := range w {
		if letter >= least {
			rest = append(rest, letter)
		}
	}
	n, _ := Rising(rest, 1)
	return n
}

// TestLongestOfLongWords asks of each place ahead of the next one whether it would have done.
func TestLongestOfLongWords(t *testing.T) {
	for _, w := range longWords() {
		places, err := Longest(w)
		n, _ := Rising(w, 1)
		if err != api.OK || len(places) != n {
			t.Fatal(w, places, err, n)
		}
		least, from := 1, 0
		for i, place := range places {
			for j := from; j < place; j++ {
				would := w[j] >= least && 1+longestFrom(w[j+1:], w[j]) == n-i
				if would != (j == place-1) {
					t.Fatal(w, places, i, j)
				}
			}
			least, from = w[place-1], place
		}
	}
}

func TestLongestErrors(t *testing.T) {
	for want, list := range badWords() {
		for _, w := range list {
			if places, err := Longest(w); places != nil || err != want {
				t.Error(brief([][]int{w}), places, err, want)
			}
		}
	}
}
