package perms

import (
	"slices"
	"testing"

	"ferrers/api"
)

func TestRounds(t *testing.T) {
	around := append(inOrder(40)[1:], 1)
	for _, c := range []struct{ p, q []int }{
		{nil, nil},
		{[]int{1}, []int{1}},
		{[]int{1, 2, 3}, []int{1, 2, 3}},
		{[]int{2, 1}, []int{2, 1}},
		{[]int{3, 1, 2}, []int{3, 2, 1}},
		{[]int{2, 3, 1}, []int{3, 1, 2}},
		{[]int{3, 2, 1}, []int{2, 3, 1}},
		{[]int{2, 1, 4, 3}, []int{2, 1, 4, 3}},
		{[]int{4, 3, 2, 1}, []int{3, 2, 4, 1}},
		{[]int{4, 2, 7, 1, 3, 6, 5}, []int{2, 4, 1, 6, 7, 5, 3}},
		{around, append([]int{40}, inOrder(39)...)},
	} {
		if q, err := Rounds(c.p); err != api.OK || !slices.Equal(q, c.q) {
			t.Error(c.p, q, err, c.q)
		}
		if p, err := Unrounds(c.q); err != api.OK || !slices.Equal(p, c.p) {
			t.Error(c.q, p, err, c.p)
		}
	}
}

// cycles counts them by walking round each.
func cycles(p []int) int {
	seen := make([]bool, len(p)+1)
	count := 0
	for n := range p {
		if seen[n+1] {
			continue
		}
		count++
		for m := n + 1; !seen[m]; m = p[m-1] {
			seen[m] = true
		}
	}
	return count
}

// aboveAllAhead counts the numbers that are.
func aboveAllAhead(q []int) int {
	greatest, count := 0, 0
	for _, n := range q {
		if n > greatest {
			greatest = n
			count++
		}
	}
	return count
}

// TestThereAndBack: both ways round, and as many cycles as numbers above all ahead.
func TestThereAndBack(t *testing.T) {
	eachToTry(func(p []int) {
		q, err := Rounds(p)
		if err != api.OK || aboveAllAhead(q) != cycles(p) {
			t.Fatal(p, q, err)
		}
		if back, err := Unrounds(q); err != api.OK || !slices.Equal(back, p) {
			t.Fatal(p, q, back, err)
		}
		u, err := Unrounds(p)
		if err != api.OK {
			t.Fatal(p, err)
		}
		if again, err := Rounds(u); err != api.OK || !slices.Equal(again, p) {
			t.Fatal(p, u, again, err)
		}
	})
}
