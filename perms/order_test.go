package perms

import (
	"math"
	"slices"
	"testing"

	"ferrers/api"
)

func TestWord(t *testing.T) {
	for _, c := range []struct{ p, word []int }{
		{nil, nil},
		{[]int{1}, nil},
		{[]int{1, 2, 3, 4}, nil},
		{[]int{2, 1}, []int{1}},
		{[]int{3, 1, 2}, []int{1, 2}},
		{[]int{2, 3, 1}, []int{2, 1}},
		{[]int{3, 2, 1}, []int{1, 2, 1}},
		{[]int{4, 3, 2, 1}, []int{1, 2, 1, 3, 2, 1}},
		{[]int{2, 1, 4, 3}, []int{1, 3}},
		{[]int{4, 2, 5, 1, 3}, []int{1, 3, 2, 1, 4, 3}},
	} {
		if word, err := Word(c.p); err != api.OK || !slices.Equal(word, c.word) {
			t.Error(c.p, word, err, c.word)
		}
	}
}

// TestProductOfWord: it is what it was, and no word that makes it is shorter, as each change of
// places mends at most one pair.
func TestProductOfWord(t *testing.T) {
	eachToTry(func(p []int) {
		word, err := Word(p)
		if err != api.OK || len(word) != wrongPairs(p) {
			t.Fatal(p, word, err)
		}
		if q, err := Product(len(p), word); err != api.OK || !slices.Equal(q, p) {
			t.Fatal(p, word, q, err)
		}
	})
}

// TestWordTakesTheFirstDescent walks along the word.
func TestWordTakesTheFirstDescent(t *testing.T) {
	eachToTry(func(p []int) {
		word, _ := Word(p)
		rest := slices.Clone(p)
		for _, i := range word {
			if !slices.IsSorted(rest[:i]) || rest[i-1] < rest[i] {
				t.Fatal(p, word, i, rest)
			}
			rest[i-1], rest[i] = rest[i], rest[i-1]
		}
		if !slices.IsSorted(rest) {
			t.Fatal(p, word, rest)
		}
	})
}

func TestProduct(t *testing.T) {
	for _, c := range []struct {
		n       int
		word, p []int
	}{
		{0, nil, nil},
		{1, nil, []int{1}},
		{3, nil, []int{1, 2, 3}},
		{40, nil, inOrder(40)},
		{3, []int{1, 2}, []int{3, 1, 2}},
		{3, []int{2, 1}, []int{2, 3, 1}},
		{3, []int{1, 1}, []int{1, 2, 3}},
		{3, []int{2, 1, 2}, []int{3, 2, 1}},
		{4, []int{1, 2, 3}, []int{4, 1, 2, 3}},
		{4, []int{3, 2, 1, 1, 3}, []int{1, 4, 3, 2}},
	} {
		if p, err := Product(c.n, c.word); err != api.OK || !slices.Equal(p, c.p) {
			t.Error(c.n, c.word, p, err, c.p)
		}
	}
}

// TestLongProducts: a word may be longer than any that Word makes.
func TestLongProducts(t *testing.T) {
	// Once round is a cycle of 40, so 40 times round is what it was.
	around := slices.Repeat(inOrder(39), 40)
	if p, err := Product(40, around); err != api.OK || !slices.Equal(p, inOrder(40)) {
		t.Error(p, err)
	}
	if p, err := Product(2, slices.Repeat([]int{1}, 100001)); err != api.OK || !slices.Equal(p, []int{2, 1}) {
		t.Error(p, err)
	}
}

func TestProductErrors(t *testing.T) {
	for _, c := range []struct {
		n    int
		word []int
	}{
		{-1, nil}, {41, nil}, {math.MinInt, nil}, {math.MaxInt, nil}, {41, []int{1}}, {-1, []int{0}},
		{0, []int{1}}, {0, []int{0}}, {0, []int{-1}}, {1, []int{1}}, {1, []int{0}},
		{3, []int{3}}, {3, []int{0}}, {3, []int{-1}}, {3, []int{1, 2, 3}}, {3, []int{0, 2, 1}},
		{40, []int{40}}, {40, []int{39, math.MaxInt}}, {40, []int{math.MinInt, 1}},
		{2, slices.Repeat([]int{2}, 10000)},
	} {
		if p, err := Product(c.n, c.word); p != nil || err != api.ErrArg {
			t.Error(c.n, c.word, p, err)
		}
	}
	if p, err := Product(40, []int{39}); err != api.OK || p[38] != 40 || p[39] != 39 {
		t.Error(p, err)
	}
}

func TestBelow(t *testing.T) {
	falling := inOrder(40)
	slices.Reverse(falling)
	for _, c := range []struct {
		a, b []int
		want bool
	}{
		{nil, nil, true},
		{[]int{1}, []int{1}, true},
		{[]int{1, 2}, []int{2, 1}, true},
		{[]int{2, 1}, []int{1, 2}, false},
		{[]int{1, 3, 2}, []int{3, 1, 2}, true},
		{[]int{2, 3, 1}, []int{3, 1, 2}, false},
		{[]int{3, 1, 2}, []int{2, 3, 1}, false},
		{[]int{2, 1, 4, 3}, []int{3, 4, 1, 2}, true},
		{[]int{1, 4, 3, 2}, []int{3, 4, 1, 2}, true},
		{[]int{1, 4, 3, 2}, []int{3, 1, 4, 2}, false},
		{[]int{2, 3, 4, 1}, []int{4, 1, 2, 3}, false},
		{inOrder(40), falling, true},
		{falling, inOrder(40), false},
		{falling, falling, true},
	} {
		if yes, err := Below(c.a, c.b); err != api.OK || yes != c.want {
			t.Error(c.a, c.b, yes, err)
		}
	}
}

// TestBelowByWords: a is at most b just if one of the words that are left of b's when letters are
// taken out makes a.
func TestBelowByWords(t *testing.T) {
	for n := range 6 {
		var list [][]int
		eachPermutation(n, func(p []int) {
			if len(p) == n {
				list = append(list, p)
			}
		})
		for _, b := range list {
			made := madeWithin(t, b)
			for _, a := range list {
				yes, err := Below(a, b)
				if err != api.OK || yes != made[[5]int(padded(a))] {
					t.Fatal(a, b, yes, err)
				}
			}
		}
	}
}

// madeWithin collects what the words make that are left of p's.
func madeWithin(t *testing.T, p []int) map[[5]int]bool {
	t.Helper()
	word, err := Word(p)
	if err != api.OK {
		t.Fatal(p, err)
	}
	made := map[[5]int]bool{}
	for chosen := range 1 << len(word) {
		var some []int
		for k, i := range word {
			if chosen>>k&1 == 1 {
				some = append(some, i)
			}
		}
		q, err := Product(len(p), some)
		if err != api.OK {
			t.Fatal(p, some, err)
		}
		made[[5]int(padded(q))] = true
	}
	return made
}

// padded makes lists of up to 5 numbers comparable.
func padded(p []int) []int {
	return append(slices.Clone(p), make([]int, 5-len(p))...)
}

// TestBelowOfLongOnes: each change of places that mends a pair goes down.
func TestBelowOfLongOnes(t *testing.T) {
	for _, b := range longPermutations() {
		for i := range b {
			for j := i + 1; j < len(b); j++ {
				a := slices.Clone(b)
				a[i], a[j] = a[j], a[i]
				yes, err := Below(a, b)
				if err != api.OK || yes != (b[i] > b[j]) {
					t.Fatal(a, b, yes, err)
				}
			}
		}
	}
}
