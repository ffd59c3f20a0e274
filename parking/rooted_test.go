package parking

import (
	"math"
	"math/rand"
	"slices"
	"testing"

	"ferrers/api"
)

// queued makes a tree of a list by P44's words; all cars find a place.
func queued(l []int) []api.Pair {
	line := []int{0}
	var tree []api.Pair
	for place := 1; place <= len(l); place++ {
		for car := 1; car <= len(l); car++ {
			if l[car-1] == place {
				tree = append(tree, api.Pair{A: line[place-1], B: car})
				line = append(line, car)
			}
		}
	}
	return told(tree)
}

// backChain joins 0 with n, n with n - 1, and so on down to 1.
func backChain(n int) []api.Pair {
	return append(pairs(0, n), chain(1, n)...)
}

func TestRooted(t *testing.T) {
	for _, c := range []struct {
		l    []int
		tree []api.Pair
	}{
		{nil, nil},
		{[]int{1}, pairs(0, 1)},
		{[]int{1, 1}, pairs(0, 1, 0, 2)},
		{[]int{1, 2}, pairs(0, 1, 1, 2)},
		{[]int{2, 1}, pairs(0, 2, 1, 2)},
		{[]int{1, 1, 2}, pairs(0, 1, 0, 2, 1, 3)},
		{[]int{3, 1, 1}, pairs(0, 2, 0, 3, 1, 3)},
		{slices.Repeat([]int{1}, 20), star(0, 20, 0)},
		{countUp(1, 20), chain(0, 20)},
		{backward(countUp(1, 20)), backChain(20)},
	} {
		if tree, err := Rooted(c.l); err != api.OK || !slices.Equal(tree, c.tree) {
			t.Error(c.l, tree, err, c.tree)
		}
		if l, err := Unrooted(c.tree); err != api.OK || !slices.Equal(l, c.l) {
			t.Error(c.tree, l, err, c.l)
		}
	}
}

// backward has the numbers from the last one up.
func backward(l []int) []int {
	l = slices.Clone(l)
	slices.Reverse(l)
	return l
}

func TestRootedErrors(t *testing.T) {
	for _, c := range []struct {
		l    []int
		want api.Errno
	}{
		{[]int{0}, api.ErrArg},
		{[]int{2}, api.ErrArg},
		{[]int{2, 2}, api.ErrNone},
		{[]int{1, 3, 3}, api.ErrNone},
		{[]int{math.MaxInt, 2}, api.ErrArg},
		{slices.Repeat([]int{20}, 20), api.ErrNone},
		{slices.Repeat([]int{1}, 21), api.ErrLarge},
	} {
		if tree, err := Rooted(c.l); err != c.want || tree != nil {
			t.Error(c.l, tree, err, c.want)
		}
	}
	for _, c := range []struct {
		tree []api.Pair
		want api.Errno
	}{
		{pairs(0, 0), api.ErrArg},
		{pairs(1, 2), api.ErrArg},
		{pairs(0, 2), api.ErrArg},
		{pairs(0, 1, 1, 0), api.ErrArg},
		{pairs(0, 1, 2, 2), api.ErrArg},
		{pairs(0, 1, 1, 2, 2, 0), api.ErrArg},
		{pairs(0, 1, 1, math.MaxInt), api.ErrArg},
		{pairs(math.MinInt, 1, 0, 1), api.ErrArg},
		{pairs(0, -1), api.ErrArg},
		{chain(1, 21), api.ErrArg},
		{chain(0, 21), api.ErrLarge},
		{slices.Repeat(pairs(5, 5), 21), api.ErrLarge},
		{slices.Repeat(pairs(5, 5), 20), api.ErrArg},
	} {
		if l, err := Unrooted(c.tree); err != c.want || l != nil {
			t.Error(c.tree, l, err, c.want)
		}
	}
}

// TestAllRooted: each list makes what P44's words make of it, and comes back of it.
func TestAllRooted(t *testing.T) {
	r := rand.New(rand.NewSource(6))
	hold := func(l []int) bool {
		tree, err := Rooted(l)
		if _, all := parked(l); !all {
			if err != api.ErrNone || tree != nil {
				t.Fatal(l, tree, err)
			}
			return false
		}
		if err != api.OK || !slices.Equal(tree, queued(l)) || !hangs(tree, 0, len(l)) {
			t.Fatal(l, tree, err)
		}
		for _, same := range [][]api.Pair{tree, mixed(r, tree)} {
			if back, err := Unrooted(same); err != api.OK || !slices.Equal(back, l) {
				t.Fatal(l, same, back, err)
			}
		}
		return true
	}
	for n := range 7 {
		eachList(n, 1, n, func(l []int) { hold(l) })
	}
	found := 0
	for range 5000 {
		n := 7 + r.Intn(14)
		l := randomList(r, n, n+1)
		s, _ := Lucky(l)
		if hold(shifted(l, s)) {
			found++
		}
		hold(randomList(r, n, n))
	}
	if found != 5000 {
		t.Error(found)
	}
}

// TestAllUnrooted: each tree makes a list of which Rooted makes it again.
func TestAllUnrooted(t *testing.T) {
	for n := range 7 {
		eachTree(0, n, func(tree []api.Pair) {
			l, err := Unrooted(tree)
			if err != api.OK || !slices.Equal(queued(l), tree) {
				t.Fatal(tree, l, err)
			}
			if back, err := Rooted(l); err != api.OK || !slices.Equal(back, tree) {
				t.Fatal(tree, l, back, err)
			}
		})
	}
}
