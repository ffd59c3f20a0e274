package perms

import (
	"math"
	"math/rand"
	"slices"
	"testing"

	"ferrers/api"
)

// badWords are lists that are no words, with what Letters says of them.
func badWords() map[api.Errno][][]int {
	return map[api.Errno][][]int{
		api.ErrArg: {
			{0}, {-1}, {100}, {1, 2, 0}, {100, 1}, {99, 99, 100}, {5, -5, 5}, {math.MaxInt}, {math.MinInt},
			{1, 1<<32 + 1}, make([]int, 40), append(slices.Repeat([]int{99}, 39), 100),
		},
		api.ErrLarge: {
			slices.Repeat([]int{1}, 41), make([]int, 41), slices.Repeat([]int{100}, 41), slices.Repeat([]int{7}, 5000),
		},
	}
}

// eachWord hands on all words of the lengths from 0 to n in the letters 1 to most.
func eachWord(n, most int, do func(w []int)) {
	var from func(w []int)
	from = func(w []int) {
		do(slices.Clone(w))
		if len(w) == n {
			return
		}
		for letter := 1; letter <= most; letter++ {
			from(append(slices.Clone(w), letter))
		}
	}
	from(nil)
}

// longWords are some that are as long as may be, or nearly, in few letters and in many.
func longWords() [][]int {
	source := rand.New(rand.NewSource(3))
	list := [][]int{slices.Repeat([]int{1}, 40), slices.Repeat([]int{99}, 40), slices.Repeat([]int{99, 1}, 20)}
	for _, most := range []int{2, 3, 10, 40, 99} {
		for range 30 {
			w := make([]int, 40-source.Intn(3))
			for i := range w {
				w[i] = 1 + source.Intn(most)
			}
			list = append(list, w)
		}
	}
	return list
}

func TestLetters(t *testing.T) {
	for _, w := range append(longWords(), nil, []int{}, []int{1}, []int{99}, []int{5, 5, 1}) {
		if err := Letters(w); err != api.OK {
			t.Error(w, err)
		}
	}
	for want, list := range badWords() {
		for _, w := range list {
			if err := Letters(w); err != want {
				t.Error(w, err, want)
			}
			if v, err := Fold(w); v != nil || err != want {
				t.Error("Fold", w, v, err, want)
			}
			if v, err := Unfold(w); v != nil || err != want {
				t.Error("Unfold", w, v, err, want)
			}
		}
	}
}

func TestFold(t *testing.T) {
	for _, c := range []struct{ w, v []int }{
		{nil, nil},
		{[]int{7}, []int{7}},
		{[]int{1, 2, 3}, []int{1, 2, 3}},
		{[]int{2, 1}, []int{2, 1}},
		{[]int{3, 1, 2}, []int{1, 3, 2}},
		{[]int{2, 3, 1}, []int{2, 3, 1}},
		{[]int{1, 3, 2}, []int{3, 1, 2}},
		{[]int{2, 1, 3}, []int{2, 1, 3}},
		{[]int{3, 2, 1}, []int{3, 2, 1}},
		// Letters that are alike: 2 2 ahead of 2 are two blocks, 2 1 ahead of 1 is one.
		{[]int{2, 2, 2}, []int{2, 2, 2}},
		{[]int{2, 1, 1}, []int{1, 2, 1}},
		{[]int{1, 2, 1, 2}, []int{2, 1, 1, 2}},
		// Up to 4 2 5 1 each letter is a block by itself; ahead of 3 the blocks are 4 2 and 5 1.
		{[]int{4, 2, 5, 1, 3}, []int{2, 4, 1, 5, 3}},
		{[]int{99, 1, 99, 1}, []int{99, 99, 1, 1}},
	} {
		if v, err := Fold(c.w); err != api.OK || !slices.Equal(v, c.v) {
			t.Error(c.w, v, err, c.v)
		}
		if w, err := Unfold(c.v); err != api.OK || !slices.Equal(w, c.w) {
			t.Error(c.v, w, err, c.w)
		}
	}
}

// blocksTurned is one step of Fold as the document tells it, block by block.
func blocksTurned(v []int, x int) []int {
	if len(v) == 0 {
		return nil
	}
	cutBehind := func(letter int) bool { return letter > x }
	if v[len(v)-1] <= x {
		cutBehind = func(letter int) bool { return letter <= x }
	}
	var turned, block []int
	for _, letter := range v {
		if !cutBehind(letter) {
			block = append(block, letter)
			continue
		}
		turned = append(append(turned, letter), block...)
		block = nil
	}
	return turned
}

// checkFolding holds all that P8 says against one word.
func checkFolding(t *testing.T, w []int) {
	t.Helper()
	v, err := Fold(w)
	if err != api.OK || wrongPairs(v) != descentSum(w) {
		t.Fatal(w, v, err)
	}
	var want []int
	for _, x := range w {
		want = append(blocksTurned(want, x), x)
	}
	if !slices.Equal(v, want) {
		t.Fatal(w, v, want)
	}
	if back, err := Unfold(v); err != api.OK || !slices.Equal(back, w) {
		t.Fatal(w, v, back, err)
	}
	u, err := Unfold(w)
	if err != api.OK {
		t.Fatal(w, err)
	}
	if again, err := Fold(u); err != api.OK || !slices.Equal(again, w) {
		t.Fatal(w, u, again, err)
	}
}

func TestFolding(t *testing.T) {
	eachWord(6, 4, func(w []int) { checkFolding(t, w) })
	eachToTry(func(p []int) { checkFolding(t, p) })
	for _, w := range longWords() {
		checkFolding(t, w)
	}
}
