package perms

import (
	"math"
	"math/rand"
	"slices"
	"testing"

	"ferrers/api"
)

// badPermutations are lists that are no permutations, with what Check says of them.
func badPermutations() map[api.Errno][][]int {
	twice := inOrder(40)
	twice[39] = 1
	above := inOrder(40)
	above[0] = 41
	return map[api.Errno][][]int{
		api.ErrArg: {
			{0}, {2}, {-1}, {1, 1}, {2, 2}, {1, 3}, {0, 1}, {1, 2, 0}, {2, 3, 4}, {3, 1, 3}, {1, -2},
			{math.MinInt}, {math.MaxInt}, {1, math.MaxInt}, {math.MinInt, 1}, {1, 1 << 32}, {1<<32 + 1, 2},
			make([]int, 40), twice, above,
		},
		api.ErrLarge: {
			inOrder(41), make([]int, 41), append(inOrder(40), 1), slices.Repeat([]int{math.MinInt}, 41), inOrder(1000),
		},
	}
}

// eachPermutation hands on all permutations of the lengths from 0 to n.
func eachPermutation(n int, do func(p []int)) {
	for length := range n + 1 {
		p := inOrder(length)
		var from func(i int)
		from = func(i int) {
			if i == length {
				do(slices.Clone(p))
				return
			}
			for j := i; j < length; j++ {
				p[i], p[j] = p[j], p[i]
				from(i + 1)
				p[i], p[j] = p[j], p[i]
			}
		}
		from(0)
	}
}

// longPermutations are some that are as long as may be, or nearly.
func longPermutations() [][]int {
	source := rand.New(rand.NewSource(2))
	falling := inOrder(40)
	slices.Reverse(falling)
	list := [][]int{inOrder(40), falling}
	for range 40 {
		p := source.Perm(40 - source.Intn(3))
		for i := range p {
			p[i]++
		}
		list = append(list, p)
	}
	return list
}

// eachToTry hands on the short ones and the long ones.
func eachToTry(do func(p []int)) {
	eachPermutation(6, do)
	for _, p := range longPermutations() {
		do(p)
	}
}

func TestCheck(t *testing.T) {
	count := 0
	eachToTry(func(p []int) {
		count++
		if err := Check(p); err != api.OK {
			t.Error(p, err)
		}
	})
	if count != 1+1+2+6+24+120+720+42 {
		t.Error(count)
	}
	if Check(nil) != api.OK || Check([]int{}) != api.OK {
		t.Error("a permutation of nothing is one")
	}
	for want, list := range badPermutations() {
		for _, p := range list {
			if err := Check(p); err != want {
				t.Error(p, err, want)
			}
		}
	}
}

// TestCheckOfAllSmallLists: of the n^n lists of numbers from 1 to n just n! are permutations.
func TestCheckOfAllSmallLists(t *testing.T) {
	for n, want := range []int{1, 1, 2, 6, 24, 120} {
		count := 0
		eachWord(n, n, func(w []int) {
			if len(w) == n && Check(w) == api.OK {
				count++
			}
		})
		if count != want {
			t.Error(n, count, want)
		}
	}
}

// TestErrorsOfCheck: each call that is handed one permutation answers what Check says of it.
func TestErrorsOfCheck(t *testing.T) {
	lists := map[string]func([]int) ([]int, api.Errno){
		"Inverse": Inverse, "Code": Code, "Word": Word, "Rounds": Rounds, "Unrounds": Unrounds,
	}
	for want, list := range badPermutations() {
		for _, p := range list {
			for name, do := range lists {
				if q, err := do(p); q != nil || err != want {
					t.Error(name, p, q, err, want)
				}
			}
			if n, m, d, err := Measure(p); n != 0 || m != 0 || d != nil || err != want {
				t.Error("Measure", p, n, m, d, err, want)
			}
		}
	}
}

// TestErrorsOfTwo: the first that is none is told of, and the lengths come behind both.
func TestErrorsOfTwo(t *testing.T) {
	long := inOrder(41)
	twice := []int{1, 1}
	for _, c := range []struct {
		a, b []int
		want api.Errno
	}{
		{twice, inOrder(2), api.ErrArg},
		{inOrder(2), twice, api.ErrArg},
		{twice, inOrder(3), api.ErrArg},
		{inOrder(3), twice, api.ErrArg},
		{nil, twice, api.ErrArg},
		{twice, nil, api.ErrArg},
		{long, inOrder(2), api.ErrLarge},
		{inOrder(2), long, api.ErrLarge},
		{long, long, api.ErrLarge},
		{twice, long, api.ErrArg},
		{long, twice, api.ErrLarge},
		{inOrder(2), inOrder(3), api.ErrShape},
		{inOrder(3), inOrder(2), api.ErrShape},
		{nil, inOrder(1), api.ErrShape},
		{inOrder(1), nil, api.ErrShape},
		{inOrder(40), inOrder(39), api.ErrShape},
	} {
		if p, err := Times(c.a, c.b); p != nil || err != c.want {
			t.Error("Times", c.a, c.b, p, err)
		}
		if yes, err := Below(c.a, c.b); yes || err != c.want {
			t.Error("Below", c.a, c.b, yes, err)
		}
	}
}

func TestInverse(t *testing.T) {
	if q, err := Inverse([]int{2, 4, 1, 3, 5}); err != api.OK || !slices.Equal(q, []int{3, 1, 4, 2, 5}) {
		t.Error(q, err)
	}
	eachToTry(func(p []int) {
		q, err := Inverse(p)
		if err != api.OK || len(q) != len(p) {
			t.Fatal(p, q, err)
		}
		for i, n := range p {
			if q[n-1] != i+1 {
				t.Fatal(p, q)
			}
		}
	})
}

func TestTimes(t *testing.T) {
	for _, c := range []struct{ a, b, want []int }{
		{nil, nil, nil},
		{[]int{1}, []int{1}, []int{1}},
		{[]int{2, 3, 1}, []int{2, 1, 3}, []int{3, 2, 1}},
		{[]int{2, 1, 3}, []int{2, 3, 1}, []int{1, 3, 2}},
		{[]int{4, 1, 3, 2}, []int{3, 4, 2, 1}, []int{3, 2, 1, 4}},
	} {
		if p, err := Times(c.a, c.b); err != api.OK || !slices.Equal(p, c.want) {
			t.Error(c.a, c.b, p, err, c.want)
		}
	}
	eachToTry(func(p []int) {
		q, _ := Inverse(p)
		if r, err := Times(p, q); err != api.OK || !slices.Equal(r, inOrder(len(p))) {
			t.Fatal(p, q, r, err)
		}
		if r, err := Times(p, inOrder(len(p))); err != api.OK || !slices.Equal(r, p) {
			t.Fatal(p, r, err)
		}
	})
}

func TestCode(t *testing.T) {
	for _, c := range []struct{ p, code []int }{
		{nil, nil},
		{[]int{1}, []int{0}},
		{[]int{3, 1, 2}, []int{2, 0, 0}},
		{[]int{2, 3, 1}, []int{1, 1, 0}},
		{[]int{4, 2, 5, 1, 3}, []int{3, 1, 2, 0, 0}},
		{[]int{4, 3, 2, 1}, []int{3, 2, 1, 0}},
	} {
		if code, err := Code(c.p); err != api.OK || !slices.Equal(code, c.code) {
			t.Error(c.p, code, err, c.code)
		}
		if p, err := FromCode(c.code); err != api.OK || !slices.Equal(p, c.p) {
			t.Error(c.code, p, err, c.p)
		}
	}
	eachToTry(func(p []int) {
		code, err := Code(p)
		if err != api.OK {
			t.Fatal(p, err)
		}
		if q, err := FromCode(code); err != api.OK || !slices.Equal(q, p) {
			t.Fatal(p, code, q, err)
		}
	})
}

// TestFromCodeOfAllSmallLists: there is a permutation just if at each place the code is at most
// as much as there are places behind.
func TestFromCodeOfAllSmallLists(t *testing.T) {
	eachWord(4, 6, func(w []int) {
		code := slices.Clone(w)
		want := api.OK
		for i := range code {
			code[i] -= 2
			if code[i] < 0 || code[i] > len(code)-1-i {
				want = api.ErrArg
			}
		}
		p, err := FromCode(code)
		if err != want || err != api.OK && p != nil {
			t.Fatal(code, p, err, want)
		}
		if err != api.OK {
			return
		}
		if back, err := Code(p); err != api.OK || !slices.Equal(back, code) {
			t.Fatal(code, p, back, err)
		}
	})
}

func TestFromCodeErrors(t *testing.T) {
	for _, c := range []struct {
		code []int
		want api.Errno
	}{
		{[]int{1}, api.ErrArg},
		{[]int{-1}, api.ErrArg},
		{[]int{0, 1}, api.ErrArg},
		{[]int{0, 0, -1}, api.ErrArg},
		{[]int{3, 0, 0}, api.ErrArg},
		{[]int{math.MaxInt, 0}, api.ErrArg},
		{[]int{math.MinInt, 0}, api.ErrArg},
		{[]int{0, math.MinInt, 0}, api.ErrArg},
		{slices.Repeat([]int{1}, 40), api.ErrArg},
		{make([]int, 41), api.ErrLarge},
		{slices.Repeat([]int{-1}, 41), api.ErrLarge},
		{slices.Repeat([]int{math.MaxInt}, 500), api.ErrLarge},
	} {
		if p, err := FromCode(c.code); p != nil || err != c.want {
			t.Error(c.code, p, err, c.want)
		}
	}
	if p, err := FromCode(make([]int, 40)); err != api.OK || !slices.Equal(p, inOrder(40)) {
		t.Error(p, err)
	}
}

func TestMeasure(t *testing.T) {
	falling := inOrder(40)
	slices.Reverse(falling)
	for _, c := range []struct {
		p                 []int
		inversions, major int
		descents          []int
	}{
		{nil, 0, 0, nil},
		{[]int{1}, 0, 0, nil},
		{[]int{2, 1}, 1, 1, []int{1}},
		{[]int{2, 3, 1}, 2, 2, []int{2}},
		{[]int{3, 1, 2}, 2, 1, []int{1}},
		{[]int{3, 2, 1}, 3, 3, []int{1, 2}},
		{[]int{4, 2, 5, 1, 3}, 6, 4, []int{1, 3}},
		{[]int{1, 5, 2, 4, 3}, 4, 6, []int{2, 4}},
		{inOrder(40), 0, 0, nil},
		{falling, 780, 780, inOrder(39)},
	} {
		n, m, d, err := Measure(c.p)
		if err != api.OK || n != c.inversions || m != c.major || !slices.Equal(d, c.descents) {
			t.Error(c.p, n, m, d, err)
		}
	}
	eachToTry(func(p []int) {
		n, m, d, err := Measure(p)
		if err != api.OK || n != wrongPairs(p) || m != descentSum(p) || !slices.IsSorted(d) {
			t.Fatal(p, n, m, d, err)
		}
	})
}

// wrongPairs counts the pairs of places with the greater number first.
func wrongPairs(w []int) int {
	count := 0
	for j := range w {
		for i := range j {
			if w[i] > w[j] {
				count++
			}
		}
	}
	return count
}

// descentSum adds up the descents.
func descentSum(w []int) int {
	sum := 0
	for i := range w {
		if i > 0 && w[i-1] > w[i] {
			sum += i
		}
	}
	return sum
}
