package insert

import (
	"fmt"
	"math"
	"math/rand"
	"slices"
	"testing"

	"ferrers/api"
	"ferrers/fill"
)

// badWords are lists that are no words, with what perms.Letters says of them.
func badWords() map[api.Errno][][]int {
	return map[api.Errno][][]int{
		api.ErrArg: {
			{0}, {-1}, {100}, {1, 2, 0}, {100, 1}, {math.MaxInt}, {math.MinInt}, {1, 1<<32 + 1}, make([]int, 40),
			append(slices.Repeat([]int{99}, 39), 100),
		},
		api.ErrLarge: {
			slices.Repeat([]int{1}, 41), make([]int, 41), slices.Repeat([]int{100}, 41), slices.Repeat([]int{7}, 5000),
		},
	}
}

func TestMakeExamples(t *testing.T) {
	for _, c := range []struct {
		w    []int
		p, q [][]int
	}{
		{nil, nil, nil},
		{[]int{}, nil, nil},
		{[]int{7}, [][]int{{7}}, [][]int{{1}}},
		{[]int{3, 1, 2}, [][]int{{1, 2}, {3}}, [][]int{{1, 3}, {2}}},
		{[]int{1, 1, 1}, [][]int{{1, 1, 1}}, [][]int{{1, 2, 3}}},
		{[]int{99, 50, 1}, [][]int{{1}, {50}, {99}}, [][]int{{1}, {2}, {3}}},
		{[]int{2, 1, 2, 1}, [][]int{{1, 1}, {2, 2}}, [][]int{{1, 3}, {2, 4}}},
		{[]int{5, 4, 8, 2, 3, 4, 1, 7, 5, 3, 1}, [][]int{{1, 1, 3, 5}, {2, 3}, {4, 4}, {5, 7}, {8}}, [][]int{{1, 3, 6, 8}, {2, 5}, {4, 9}, {7, 10}, {11}}},
		{rowFrom(60, 40), [][]int{rowFrom(60, 40)}, [][]int{rowFrom(1, 40)}},
	} {
		p, q, err := Make(c.w)
		if err != api.OK || !sameRows(p, c.p) || !sameRows(q, c.q) {
			t.Error(c.w, p, q, err)
		}
		if w, err := Back(c.p, c.q); err != api.OK || !slices.Equal(w, c.w) {
			t.Error(c.p, c.q, w, err)
		}
	}
}

// madeOf is P14 by inRows: the tableau of the letters, and the one of the marks
// in the boxes that came.
func madeOf(marks, letters []int) (p, q [][]int) {
	for i, x := range letters {
		more := inRows(p, x)
		row := whereMore(p, more)
		if row == len(q) {
			q = append(q, nil)
		}
		q[row] = append(q[row], marks[i])
		p = more
	}
	return p, q
}

// checkMake holds all that P14 says of words against one.
func checkMake(t *testing.T, w []int) {
	t.Helper()
	p, q, err := Make(w)
	wantP, wantQ := madeOf(rowFrom(1, len(w)), w)
	if err != api.OK || !sameRows(p, wantP) || !sameRows(q, wantQ) {
		t.Fatal(w, p, q, err)
	}
	if standard, err := fill.IsStandard(q); err != api.OK || !standard {
		t.Fatal(w, q, standard, err)
	}
	if v, err := Back(p, q); err != api.OK || !slices.Equal(v, w) {
		t.Fatal(w, p, q, v, err)
	}
}

func TestMake(t *testing.T) {
	eachWord(7, 3, func(w []int) { checkMake(t, w) })
	eachPermutation(6, func(w []int) { checkMake(t, w) })
	for _, w := range longWords() {
		checkMake(t, w)
	}
}

// TestMakeOfWords: of a tableau's word comes the tableau, and what is put to either side of the
// word comes as P13 tells.
func TestMakeOfWords(t *testing.T) {
	eachTableau(5, 4, func(a [][]int) {
		word, err := fill.Word(a)
		if err != api.OK {
			t.Fatal(a, err)
		}
		if p, _, err := Make(word); err != api.OK || !sameRows(p, a) {
			t.Fatal(a, p, err)
		}
		for x := 1; x <= 5; x++ {
			right, _, _ := Insert(a, x)
			if p, _, err := Make(append(slices.Clone(word), x)); err != api.OK || !sameRows(p, right) {
				t.Fatal(a, x, p, err)
			}
			left, _, _ := InsertLeft(a, x)
			if p, _, err := Make(append([]int{x}, word...)); err != api.OK || !sameRows(p, left) {
				t.Fatal(a, x, p, err)
			}
		}
	})
}

// TestBack: each tableau with each standard one of its shape comes of one word.
func TestBack(t *testing.T) {
	eachShape(6, func(shape []int) {
		ps, err := fill.AllOf(shape, 4)
		qs, err2 := fill.All(shape)
		if err != api.OK || err2 != api.OK {
			t.Fatal(shape, err, err2)
		}
		for _, p := range ps {
			for _, q := range qs {
				w, err := Back(p, q)
				if err != api.OK {
					t.Fatal(p, q, err)
				}
				if a, b, err := Make(w); err != api.OK || !sameRows(a, p) || !sameRows(b, q) {
					t.Fatal(p, q, w, a, b, err)
				}
			}
		}
	})
}

// TestInverseChangesPlaces: of a permutation's inverse P and Q have changed places (P14).
func TestInverseChangesPlaces(t *testing.T) {
	eachPermutation(6, func(w []int) {
		inverse := make([]int, len(w))
		for i, x := range w {
			inverse[x-1] = i + 1
		}
		p, q, _ := Make(w)
		a, b, _ := Make(inverse)
		if !sameRows(p, b) || !sameRows(q, a) {
			t.Fatal(w, p, q, a, b)
		}
	})
}

func TestMakeErrors(t *testing.T) {
	for want, list := range badWords() {
		for _, w := range list {
			if p, q, err := Make(w); p != nil || q != nil || err != want {
				t.Error(brief([][]int{w}), p, q, err, want)
			}
		}
	}
}

// checkBacks asks both ways back for one error.
func checkBacks(t *testing.T, p, q [][]int, want api.Errno) {
	t.Helper()
	if w, err := Back(p, q); w != nil || err != want {
		t.Error("Back", brief(p), brief(q), w, err, want)
	}
	if l, err := BackPairs(p, q); l != nil || err != want {
		t.Error("BackPairs", brief(p), brief(q), l, err, want)
	}
}

func TestBackErrors(t *testing.T) {
	eachBad := func(do func(a [][]int, want api.Errno)) {
		for want, list := range badTableaux() {
			for _, a := range list {
				do(a, want)
			}
		}
	}
	eachBad(func(a [][]int, want api.Errno) {
		for _, fine := range append(greatTableaux(), nil, [][]int{{1}}, [][]int{{1, 1}, {2}}) {
			checkBacks(t, a, fine, want)
			checkBacks(t, fine, a, want)
		}
		// What is said of p is told first, even if q is worse.
		eachBad(func(b [][]int, _ api.Errno) { checkBacks(t, a, b, want) })
	})
	for _, c := range []struct{ p, q [][]int }{
		{nil, [][]int{{1}}}, {[][]int{{1}}, nil}, {[][]int{{1}}, [][]int{{1, 2}}}, {[][]int{{1, 2}}, [][]int{{1}, {2}}},
		{[][]int{{1, 2}, {3}}, [][]int{{1, 2}, {3}, {4}}}, {[][]int{{1, 2}, {3, 4}}, [][]int{{1, 2, 3}, {4}}},
		{[][]int{rowFrom(1, 40)}, columnFrom(1, 40)}, {[][]int{rowFrom(1, 40)}, [][]int{rowFrom(1, 39)}},
		{[][]int{{1, 2, 3}, {4}}, [][]int{{1, 2, 3}}}, {[][]int{{1, 2, 3}}, [][]int{{1, 2, 3}, {4}}},
	} {
		checkBacks(t, c.p, c.q, api.ErrShape)
	}
	for _, c := range []struct{ p, q [][]int }{
		{[][]int{{1}}, [][]int{{2}}}, {[][]int{{1, 2}}, [][]int{{1, 1}}}, {[][]int{{1, 2}, {3}}, [][]int{{1, 1}, {2}}},
		{[][]int{{1, 2}, {3}}, [][]int{{1, 2}, {2}}}, {[][]int{{1, 2}, {3}}, [][]int{{1, 2}, {4}}}, {[][]int{{1}, {2}}, [][]int{{2}, {3}}},
		{[][]int{rowFrom(1, 40)}, [][]int{rowFrom(2, 40)}}, {[][]int{{1}}, [][]int{{99}}},
	} {
		if w, err := Back(c.p, c.q); w != nil || err != api.ErrShape {
			t.Error(c.p, c.q, w, err)
		}
		if _, err := BackPairs(c.p, c.q); err != api.OK {
			t.Error(c.p, c.q, err)
		}
	}
	// p need not be standard.
	if w, err := Back([][]int{{5, 5}, {9}}, [][]int{{1, 2}, {3}}); err != api.OK || !slices.Equal(w, []int{5, 9, 5}) {
		t.Error(w, err)
	}
}

func TestPairsExamples(t *testing.T) {
	for _, c := range []struct {
		l    []api.Pair
		p, q [][]int
	}{
		{nil, nil, nil},
		{[]api.Pair{}, nil, nil},
		{[]api.Pair{{A: 99, B: 1}}, [][]int{{1}}, [][]int{{99}}},
		{[]api.Pair{{A: 1, B: 2}, {A: 1, B: 3}, {A: 2, B: 1}}, [][]int{{1, 3}, {2}}, [][]int{{1, 1}, {2}}},
		{[]api.Pair{{A: 5, B: 5}, {A: 5, B: 5}}, [][]int{{5, 5}}, [][]int{{5, 5}}},
		{
			[]api.Pair{{A: 1, B: 1}, {A: 1, B: 3}, {A: 1, B: 3}, {A: 2, B: 2}, {A: 2, B: 2}, {A: 3, B: 1}, {A: 3, B: 2}},
			[][]int{{1, 1, 2, 2}, {2, 3}, {3}}, [][]int{{1, 1, 1, 3}, {2, 2}, {3}},
		},
		{slices.Repeat([]api.Pair{{A: 99, B: 99}}, 40), [][]int{slices.Repeat([]int{99}, 40)}, [][]int{slices.Repeat([]int{99}, 40)}},
	} {
		p, q, err := MakePairs(c.l)
		if err != api.OK || !sameRows(p, c.p) || !sameRows(q, c.q) {
			t.Error(c.l, p, q, err)
		}
		if l, err := BackPairs(c.p, c.q); err != api.OK || !slices.Equal(l, c.l) {
			t.Error(c.p, c.q, l, err)
		}
	}
}

// inOrder sorts pairs as P14 asks for, as numbers of two digits to the base of 100.
func inOrder(l []api.Pair) []api.Pair {
	l = slices.Clone(l)
	slices.SortFunc(l, func(a, b api.Pair) int { return 100*a.A + a.B - 100*b.A - b.B })
	return l
}

// checkPairs holds all that P14 says of pairs against one list of them.
func checkPairs(t *testing.T, l []api.Pair) {
	t.Helper()
	var as, bs []int
	var swapped []api.Pair
	for _, pair := range l {
		as, bs = append(as, pair.A), append(bs, pair.B)
		swapped = append(swapped, api.Pair{A: pair.B, B: pair.A})
	}
	p, q, err := MakePairs(l)
	wantP, wantQ := madeOf(as, bs)
	if err != api.OK || !sameRows(p, wantP) || !sameRows(q, wantQ) || fill.Check(q) != api.OK {
		t.Fatal(l, p, q, err)
	}
	if back, err := BackPairs(p, q); err != api.OK || !slices.Equal(back, l) {
		t.Fatal(l, p, q, back, err)
	}
	// If A and B change places in each pair, P and Q do.
	if a, b, err := MakePairs(inOrder(swapped)); err != api.OK || !sameRows(a, q) || !sameRows(b, p) {
		t.Fatal(l, p, q, a, b, err)
	}
}

func TestPairs(t *testing.T) {
	var from func(l []api.Pair, first int)
	from = func(l []api.Pair, first int) {
		checkPairs(t, l)
		if len(l) == 5 {
			return
		}
		for k := first; k < 9; k++ {
			from(append(slices.Clone(l), api.Pair{A: 1 + k/3, B: 1 + k%3}), k)
		}
	}
	from(nil, 0)
	source := rand.New(rand.NewSource(5))
	for _, most := range []int{2, 3, 10, 99} {
		for range 30 {
			l := make([]api.Pair, 40-source.Intn(2))
			for i := range l {
				l[i] = api.Pair{A: 1 + source.Intn(most), B: 1 + source.Intn(most)}
			}
			checkPairs(t, inOrder(l))
		}
	}
}

// TestBackPairs: each two tableaux of one shape come of one list of pairs.
func TestBackPairs(t *testing.T) {
	eachShape(5, func(shape []int) {
		list, err := fill.AllOf(shape, 3)
		if err != api.OK {
			t.Fatal(shape, err)
		}
		seen := map[string]int{}
		for _, p := range list {
			for _, q := range list {
				l, err := BackPairs(p, q)
				if err != api.OK {
					t.Fatal(p, q, err)
				}
				if a, b, err := MakePairs(l); err != api.OK || !sameRows(a, p) || !sameRows(b, q) {
					t.Fatal(p, q, l, a, b, err)
				}
				seen[fmt.Sprint(l)]++
			}
		}
		if len(seen) != len(list)*len(list) {
			t.Fatal(shape, len(seen), len(list))
		}
	})
}

// badPairs are lists of pairs that MakePairs refuses, with its error.
func badPairs() map[api.Errno][][]api.Pair {
	return map[api.Errno][][]api.Pair{
		api.ErrArg: {
			{{A: 0, B: 1}}, {{A: 1, B: 0}}, {{A: 100, B: 1}}, {{A: 1, B: 100}}, {{A: -1, B: 1}}, {{A: 1, B: -1}}, {{}},
			{{A: math.MaxInt, B: 1}}, {{A: 1, B: math.MinInt}}, {{A: 1<<32 + 1, B: 1}},
			{{A: 1, B: 1}, {A: 2, B: 0}}, {{A: 1, B: 1}, {A: 100, B: 1}}, {{A: 0, B: 1}, {A: 1, B: 1}},
			{{A: 2, B: 1}, {A: 1, B: 1}}, {{A: 2, B: 1}, {A: 1, B: 2}}, {{A: 1, B: 2}, {A: 1, B: 1}},
			{{A: 1, B: 1}, {A: 1, B: 2}, {A: 2, B: 3}, {A: 2, B: 2}}, {{A: 1, B: 1}, {A: 3, B: 1}, {A: 2, B: 9}},
			make([]api.Pair, 40), append(slices.Repeat([]api.Pair{{A: 2, B: 2}}, 39), api.Pair{A: 2, B: 1}),
		},
		api.ErrLarge: {
			slices.Repeat([]api.Pair{{A: 1, B: 1}}, 41), make([]api.Pair, 41), make([]api.Pair, 1<<16),
			append(slices.Repeat([]api.Pair{{A: 2, B: 2}}, 40), api.Pair{A: 1, B: 1}),
		},
	}
}

func TestPairsErrors(t *testing.T) {
	for want, list := range badPairs() {
		for _, l := range list {
			if p, q, err := MakePairs(l); p != nil || q != nil || err != want {
				t.Error(len(l), l[:min(len(l), 42)], p, q, err, want)
			}
		}
	}
}
