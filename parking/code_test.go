package parking

import (
	"math"
	"math/rand"
	"slices"
	"testing"

	"ferrers/api"
)

// pairs makes edges of their ends, one behind the other.
func pairs(ends ...int) []api.Pair {
	var l []api.Pair
	for k := 0; k+1 < len(ends); k += 2 {
		l = append(l, api.Pair{A: ends[k], B: ends[k+1]})
	}
	return l
}

// chain joins each vertex from the first one on with the next one.
func chain(first, last int) []api.Pair {
	var l []api.Pair
	for v := first; v < last; v++ {
		l = append(l, api.Pair{A: v, B: v + 1})
	}
	return l
}

// star joins the middle with each other vertex.
func star(first, last, middle int) []api.Pair {
	var l []api.Pair
	for v := first; v <= last; v++ {
		if v != middle {
			l = append(l, api.Pair{A: middle, B: v})
		}
	}
	return told(l)
}

// told is a tree as P43 says that it is told.
func told(l []api.Pair) []api.Pair {
	l = slices.Clone(l)
	for k, edge := range l {
		if edge.A > edge.B {
			l[k] = api.Pair{A: edge.B, B: edge.A}
		}
	}
	slices.SortFunc(l, func(a, b api.Pair) int {
		if a.A != b.A {
			return a.A - b.A
		}
		return a.B - b.B
	})
	return l
}

// mixed is the same tree with edges, and their ends, in whatever order.
func mixed(r *rand.Rand, l []api.Pair) []api.Pair {
	l = slices.Clone(l)
	r.Shuffle(len(l), func(i, j int) { l[i], l[j] = l[j], l[i] })
	for k, edge := range l {
		if r.Intn(2) == 0 {
			l[k] = api.Pair{A: edge.B, B: edge.A}
		}
	}
	return l
}

// hangs tells by walking whether the edges are a tree of the vertices from the first to the last one.
func hangs(l []api.Pair, first, last int) bool {
	if len(l) != last-first {
		return false
	}
	for _, edge := range l {
		if edge.A < first || edge.A > last || edge.B < first || edge.B > last {
			return false
		}
	}
	reached := map[int]bool{first: true}
	for range l {
		for _, edge := range l {
			if reached[edge.A] || reached[edge.B] {
				reached[edge.A], reached[edge.B] = true, true
			}
		}
	}
	return len(reached) == last-first+1
}

// eachTree hands on all trees of the vertices from the first to the last one, as they are told.
func eachTree(first, last int, do func(l []api.Pair)) {
	var all []api.Pair
	for v := first; v <= last; v++ {
		for w := v + 1; w <= last; w++ {
			all = append(all, api.Pair{A: v, B: w})
		}
	}
	eachChoice(all, last-first, func(l []api.Pair) {
		if hangs(l, first, last) {
			do(l)
		}
	})
}

// eachChoice hands on all choices of so many of the edges, in their order.
func eachChoice(all []api.Pair, many int, do func(l []api.Pair)) {
	var chosen []api.Pair
	var choose func(from int)
	choose = func(from int) {
		if len(chosen) == many {
			do(chosen)
			return
		}
		for k := from; k < len(all); k++ {
			chosen = append(chosen, all[k])
			choose(k + 1)
			chosen = chosen[:len(chosen)-1]
		}
	}
	choose(0)
}

// pruned makes a tree's code by P43's words.
func pruned(l []api.Pair) []int {
	n := len(l) + 1
	left := slices.Clone(l)
	var c []int
	for range n - 2 {
		for v := 1; v <= n; v++ {
			var own []int
			for k, edge := range left {
				if edge.A == v || edge.B == v {
					own = append(own, k)
				}
			}
			if len(own) != 1 {
				continue
			}
			if edge := left[own[0]]; edge.A == v {
				c = append(c, edge.B)
			} else {
				c = append(c, edge.A)
			}
			left = slices.Delete(left, own[0], own[0]+1)
			break
		}
	}
	return c
}

func TestCodeAndTree(t *testing.T) {
	for _, c := range []struct {
		tree []api.Pair
		code []int
	}{
		{pairs(1, 2), nil},
		{pairs(1, 3, 2, 3), []int{3}},
		{pairs(1, 2, 1, 3), []int{1}},
		{pairs(1, 4, 2, 4, 3, 4, 4, 5, 5, 6), []int{4, 4, 4, 5}},
		{chain(1, 20), countUp(2, 19)},
		{star(1, 20, 20), slices.Repeat([]int{20}, 18)},
		{star(1, 20, 1), slices.Repeat([]int{1}, 18)},
		{star(1, 20, 7), slices.Repeat([]int{7}, 18)},
	} {
		if code, err := Code(c.tree); err != api.OK || !slices.Equal(code, c.code) {
			t.Error(c.tree, code, err, c.code)
		}
		if tree, err := Tree(c.code); err != api.OK || !slices.Equal(tree, c.tree) {
			t.Error(c.code, tree, err, c.tree)
		}
	}
}

func TestCodeErrors(t *testing.T) {
	for _, c := range []struct {
		l    []api.Pair
		want api.Errno
	}{
		{nil, api.ErrArg},
		{[]api.Pair{}, api.ErrArg},
		{pairs(1, 1), api.ErrArg},
		{pairs(0, 1), api.ErrArg},
		{pairs(1, 3), api.ErrArg},
		{pairs(2, 3), api.ErrArg},
		{pairs(1, 2, 2, 1), api.ErrArg},
		{pairs(1, 2, 1, 2), api.ErrArg},
		{pairs(1, 2, 3, 3), api.ErrArg},
		{pairs(1, 2, 2, 3, 3, 1), api.ErrArg},
		{pairs(0, 1, 1, 2), api.ErrArg},
		{pairs(1, 2, 2, 4), api.ErrArg},
		{pairs(1, 2, 2, math.MinInt), api.ErrArg},
		{pairs(math.MaxInt, 1, 1, 2), api.ErrArg},
		{pairs(-1, 1, 1, 2), api.ErrArg},
		{chain(0, 19), api.ErrArg},
		{chain(1, 21), api.ErrLarge},
		{slices.Repeat(pairs(0, 0), 20), api.ErrLarge},
		{slices.Repeat(pairs(0, 0), 19), api.ErrArg},
	} {
		if code, err := Code(c.l); err != c.want || code != nil {
			t.Error(c.l, code, err, c.want)
		}
	}
}

func TestTreeErrors(t *testing.T) {
	for _, c := range []struct {
		code []int
		want api.Errno
	}{
		{[]int{0}, api.ErrArg},
		{[]int{4}, api.ErrArg},
		{[]int{1, 5}, api.ErrArg},
		{[]int{-1, 1}, api.ErrArg},
		{[]int{math.MinInt}, api.ErrArg},
		{[]int{1, math.MaxInt}, api.ErrArg},
		{append(countUp(1, 17), 21), api.ErrArg},
		{countUp(1, 19), api.ErrLarge},
		{slices.Repeat([]int{0}, 19), api.ErrLarge},
	} {
		if tree, err := Tree(c.code); err != c.want || tree != nil {
			t.Error(c.code, tree, err, c.want)
		}
	}
	if tree, err := Tree(append(countUp(1, 17), 20)); err != api.OK || !hangs(tree, 1, 20) {
		t.Error(tree, err)
	}
}

// TestAllTrees: each tree has the code of P43's words and comes back of it, and there are as many as CAYLEY says.
func TestAllTrees(t *testing.T) {
	r := rand.New(rand.NewSource(3))
	counts := []int{2: 1, 3: 3, 4: 16, 5: 125, 6: 1296, 7: 16807}
	for n := 2; n <= 7; n++ {
		count := 0
		eachTree(1, n, func(l []api.Pair) {
			count++
			want := pruned(l)
			for _, same := range [][]api.Pair{l, mixed(r, l)} {
				if code, err := Code(same); err != api.OK || !slices.Equal(code, want) {
					t.Fatal(same, code, err, want)
				}
			}
			if tree, err := Tree(want); err != api.OK || !slices.Equal(tree, l) {
				t.Fatal(want, tree, err, l)
			}
		})
		if count != counts[n] {
			t.Error(n, count)
		}
	}
}

// TestAllCodes: each code makes a tree, told as P43 says, of which Code makes it again.
func TestAllCodes(t *testing.T) {
	hold := func(c []int) {
		tree, err := Tree(c)
		if err != api.OK || !hangs(tree, 1, len(c)+2) || !slices.Equal(tree, told(tree)) {
			t.Fatal(c, tree, err)
		}
		if code, err := Code(tree); err != api.OK || !slices.Equal(code, c) {
			t.Fatal(c, tree, code, err)
		}
	}
	for length := range 6 {
		eachList(length, 1, length+2, hold)
	}
	r := rand.New(rand.NewSource(4))
	for range 3000 {
		length := 6 + r.Intn(13)
		hold(randomList(r, length, 1+r.Intn(length+2)))
	}
}

// TestWhatIsNoTree: all lists of few edges with ends a little beyond the vertices.
func TestWhatIsNoTree(t *testing.T) {
	for edges := range 4 {
		eachList(2*edges, -1, edges+2, func(ends []int) {
			l := pairs(ends...)
			code, err := Code(l)
			if (err == api.OK) != (edges > 0 && hangs(l, 1, edges+1)) || err != api.OK && (err != api.ErrArg || code != nil) {
				t.Fatal(l, code, err)
			}
			liked, err := Unrooted(l)
			if (err == api.OK) != hangs(l, 0, edges) || err != api.OK && (err != api.ErrArg || liked != nil) {
				t.Fatal(l, liked, err)
			}
		})
	}
}

// TestManyEdgesThatAreNoTree: lists of many edges in which a tree's edge is laid elsewhere.
func TestManyEdgesThatAreNoTree(t *testing.T) {
	r := rand.New(rand.NewSource(5))
	bad := 0
	for range 5000 {
		n := 8 + r.Intn(13)
		tree, _ := Tree(randomList(r, n-2, n))
		l := mixed(r, tree)
		l[r.Intn(len(l))] = api.Pair{A: 1 + r.Intn(n), B: 1 + r.Intn(n)}
		code, err := Code(l)
		if !hangs(l, 1, n) {
			bad++
			if err != api.ErrArg || code != nil {
				t.Fatal(l, code, err)
			}
		} else if err != api.OK || !slices.Equal(code, pruned(l)) {
			t.Fatal(l, code, err)
		}
	}
	if bad < 500 || bad > 4500 {
		t.Error(bad)
	}
}
