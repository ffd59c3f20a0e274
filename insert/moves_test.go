package insert

import (
	"fmt"
	"slices"
	"testing"

	"ferrers/api"
)

func TestMovesExamples(t *testing.T) {
	for _, c := range []struct {
		w    []int
		want [][]int
	}{
		{nil, nil},
		{[]int{1}, nil},
		{[]int{2, 1}, nil},
		{[]int{1, 2, 3}, nil},
		{[]int{3, 2, 1}, nil},
		{[]int{1, 1, 1}, nil},
		{[]int{1, 3, 2}, [][]int{{3, 1, 2}}},
		{[]int{3, 1, 2}, [][]int{{1, 3, 2}}},
		{[]int{2, 1, 3}, [][]int{{2, 3, 1}}},
		{[]int{2, 3, 1}, [][]int{{2, 1, 3}}},
		// Letters that are alike: one that is the lesser one may stand behind, one that is the greater ahead.
		{[]int{1, 2, 1}, [][]int{{2, 1, 1}}},
		{[]int{2, 1, 1}, [][]int{{1, 2, 1}}},
		{[]int{2, 1, 2}, [][]int{{2, 2, 1}}},
		{[]int{2, 2, 1}, [][]int{{2, 1, 2}}},
		{[]int{1, 1, 2}, nil},
		{[]int{1, 2, 2}, nil},
		// 4 and 1 change places because of 2 ahead, and because of 3 behind: one word.
		{[]int{2, 4, 1, 3}, [][]int{{2, 1, 4, 3}}},
		{[]int{2, 1, 4, 3}, [][]int{{2, 4, 1, 3}}},
		{[]int{1, 3, 2, 99, 1}, [][]int{{1, 3, 2, 1, 99}, {1, 3, 99, 2, 1}, {3, 1, 2, 99, 1}}},
		{[]int{4, 1, 5, 2, 6, 3}, [][]int{{4, 1, 5, 6, 2, 3}, {4, 5, 1, 2, 6, 3}}},
	} {
		if got, err := Moves(c.w); err != api.OK || !sameRows(got, c.want) {
			t.Error(c.w, got, err, c.want)
		}
	}
}

// stepsOf is P15 as the document tells it, of each three neighbours.
func stepsOf(w []int) [][]int {
	var list [][]int
	add := func(i, j int) {
		v := slices.Clone(w)
		v[i], v[j] = v[j], v[i]
		list = append(list, v)
	}
	for i := 0; i+2 < len(w); i++ {
		a, b, c := w[i], w[i+1], w[i+2]
		if b < a && a <= c || c < a && a <= b {
			add(i+1, i+2)
		}
		if a <= c && c < b || b <= c && c < a {
			add(i, i+1)
		}
	}
	slices.SortFunc(list, slices.Compare[[]int])
	return slices.CompactFunc(list, slices.Equal)
}

// checkMoves holds all that P15 says against one word.
func checkMoves(t *testing.T, w []int) {
	t.Helper()
	list, err := Moves(w)
	if err != api.OK || !sameRows(list, stepsOf(w)) {
		t.Fatal(w, list, err)
	}
	p, _, _ := Make(w)
	for _, v := range list {
		if a, _, err := Make(v); err != api.OK || !sameRows(a, p) {
			t.Fatal(w, v, a, err)
		}
	}
}

func TestMoves(t *testing.T) {
	eachWord(7, 3, func(w []int) { checkMoves(t, w) })
	eachWord(5, 4, func(w []int) { checkMoves(t, w) })
	eachPermutation(6, func(w []int) { checkMoves(t, w) })
	for _, w := range longWords() {
		checkMoves(t, w)
	}
}

// TestStepsLeadToAll: from a word steps lead to all words with its P, and to no other.
func TestStepsLeadToAll(t *testing.T) {
	withP := map[string]int{}
	key := func(w []int) string {
		p, _, err := Make(w)
		return fmt.Sprint(p, err)
	}
	eachWord(6, 3, func(w []int) { withP[key(w)]++ })
	eachPermutation(6, func(w []int) { withP[key(w)]++ })
	reached := func(w []int) int {
		seen := map[string]int{fmt.Sprint(w): 1}
		waiting := [][]int{w}
		for len(waiting) > 0 {
			list, err := Moves(waiting[0])
			if err != api.OK {
				t.Fatal(waiting[0], err)
			}
			waiting = waiting[1:]
			for _, v := range list {
				if seen[fmt.Sprint(v)] == 0 {
					seen[fmt.Sprint(v)] = 1
					waiting = append(waiting, v)
				}
			}
		}
		return len(seen)
	}
	eachWord(6, 3, func(w []int) {
		if n := reached(w); n != withP[key(w)] {
			t.Fatal(w, n, withP[key(w)])
		}
	})
	eachPermutation(6, func(w []int) {
		if n := reached(w); n != withP[key(w)] {
			t.Fatal(w, n, withP[key(w)])
		}
	})
}

func TestMovesErrors(t *testing.T) {
	for want, list := range badWords() {
		for _, w := range list {
			if l, err := Moves(w); l != nil || err != want {
				t.Error(brief([][]int{w}), l, err, want)
			}
		}
	}
}
