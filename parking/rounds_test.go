package parking

import (
	"math"
	"math/big"
	"math/rand"
	"slices"
	"strconv"
	"testing"

	"ferrers/api"
)

// treesOf counts by P45's words the choices of edges that are trees of the vertices 1 to n.
func treesOf(n int, l []api.Pair) int {
	count := 0
	eachChoice(l, n-1, func(chosen []api.Pair) {
		if hangs(chosen, 1, n) {
			count++
		}
	})
	return count
}

// roundsOf counts by P45's words: as all arcs are gone through, each way is counted from the first one on.
func roundsOf(l []api.Pair) int {
	if len(l) == 0 {
		return 0
	}
	gone := make([]bool, len(l))
	count := 0
	var walk func(at, left int)
	walk = func(at, left int) {
		if left == 0 {
			if at == l[0].A {
				count++
			}
			return
		}
		for k, arc := range l {
			if !gone[k] && arc.A == at {
				gone[k] = true
				walk(arc.B, left-1)
				gone[k] = false
			}
		}
	}
	gone[0] = true
	walk(l[0].B, len(l)-1)
	return count
}

// power tells a to the power of b in digits.
func power(a, b int) string {
	return new(big.Int).Exp(big.NewInt(int64(a)), big.NewInt(int64(b)), nil).String()
}

// product tells that of the numbers in digits.
func product(factors ...int64) string {
	p := big.NewInt(1)
	for _, factor := range factors {
		p.Mul(p, big.NewInt(factor))
	}
	return p.String()
}

// complete joins each two of the vertices 1 to n.
func complete(n int) []api.Pair {
	var l []api.Pair
	for v := 1; v <= n; v++ {
		for w := v + 1; w <= n; w++ {
			l = append(l, api.Pair{A: v, B: w})
		}
	}
	return l
}

// twoSides joins each of the first vertices with each of the others.
func twoSides(first, others int) []api.Pair {
	var l []api.Pair
	for v := 1; v <= first; v++ {
		for w := first + 1; w <= first+others; w++ {
			l = append(l, api.Pair{A: v, B: w})
		}
	}
	return l
}

// ring goes from each vertex to the next one, and from the last one to the first.
func ring(n int) []api.Pair {
	return append(chain(1, n), api.Pair{A: n, B: 1})
}

// bothWays has each edge as two arcs.
func bothWays(l []api.Pair) []api.Pair {
	l = slices.Clone(l)
	for _, edge := range slices.Clone(l) {
		l = append(l, api.Pair{A: edge.B, B: edge.A})
	}
	return l
}

// randomEdges has so many edges of the vertices 1 to n, n from 2 on.
func randomEdges(r *rand.Rand, n, many int) []api.Pair {
	var l []api.Pair
	for range many {
		v, w := 1+r.Intn(n), 1+r.Intn(n-1)
		if w >= v {
			w++
		}
		l = append(l, api.Pair{A: v, B: w})
	}
	return l
}

// randomRound goes so many arcs over the vertices 1 to n, n from 2 on, and back to where it began, if it can.
func randomRound(r *rand.Rand, n, many int) []api.Pair {
	for {
		steps := randomList(r, many, n)
		var l []api.Pair
		for k, v := range steps {
			if next := steps[(k+1)%many]; v != next {
				l = append(l, api.Pair{A: v, B: next})
			}
		}
		if len(l) > 0 {
			return l
		}
	}
}

func TestSpanning(t *testing.T) {
	for _, c := range []struct {
		n    int
		l    []api.Pair
		want string
	}{
		{1, nil, "1"},
		{2, nil, "0"},
		{10, nil, "0"},
		{2, pairs(1, 2), "1"},
		{2, pairs(1, 2, 2, 1, 1, 2), "3"},
		{3, pairs(1, 2), "0"},
		{3, pairs(1, 2, 1, 2), "0"},
		{4, pairs(1, 2, 2, 3, 3, 1), "0"},
		{4, pairs(1, 2, 3, 4), "0"},
		{4, pairs(1, 2, 2, 3, 3, 4, 4, 1), "4"},
		{2, slices.Repeat(pairs(2, 1), 60), "60"},
		{10, chain(1, 10), "1"},
		{10, ring(10), "10"},
		{10, slices.Repeat(ring(10), 6), product(10, 6, 6, 6, 6, 6, 6, 6, 6, 6)},
		{10, slices.Concat(complete(10), star(1, 10, 4), pairs(1, 2, 3, 4, 5, 6, 7, 8, 9, 10, 1, 10)), ""},
	} {
		want := c.want
		if want == "" {
			want = byFractions(c.n, c.l)
		}
		if text, err := Spanning(c.n, c.l); err != api.OK || text != want {
			t.Error(c.n, c.l, text, err, want)
		}
	}
}

// TestSpanningErrors holds the errors of Spanning and Rounds, which are likewise but for how many edges there may be.
func TestSpanningErrors(t *testing.T) {
	for _, c := range []struct {
		n                int
		l                []api.Pair
		spanning, rounds api.Errno
	}{
		{0, nil, api.ErrArg, api.ErrArg},
		{-1, nil, api.ErrArg, api.ErrArg},
		{11, nil, api.ErrArg, api.ErrArg},
		{math.MinInt, nil, api.ErrArg, api.ErrArg},
		{math.MaxInt, nil, api.ErrArg, api.ErrArg},
		{11, slices.Repeat(pairs(1, 2), 61), api.ErrArg, api.ErrArg},
		{1, pairs(1, 1), api.ErrArg, api.ErrArg},
		{1, pairs(1, 2), api.ErrArg, api.ErrArg},
		{2, pairs(0, 1), api.ErrArg, api.ErrArg},
		{2, pairs(1, 2, 3, 1), api.ErrArg, api.ErrArg},
		{2, pairs(1, 2, 2, 2), api.ErrArg, api.ErrArg},
		{3, pairs(1, math.MaxInt), api.ErrArg, api.ErrArg},
		{3, pairs(math.MinInt, 1), api.ErrArg, api.ErrArg},
		{3, pairs(-1, 1), api.ErrArg, api.ErrArg},
		{2, slices.Repeat(pairs(1, 2), 61), api.ErrLarge, api.ErrLarge},
		{2, slices.Repeat(pairs(1, 2), 60), api.OK, api.ErrLarge},
		{2, slices.Repeat(pairs(1, 2), 21), api.OK, api.ErrLarge},
		{2, slices.Repeat(pairs(1, 2), 20), api.OK, api.OK},
		{2, append(slices.Repeat(pairs(1, 2), 60), pairs(1, 1)...), api.ErrArg, api.ErrArg},
		{2, append(slices.Repeat(pairs(1, 2), 60), pairs(1, 3)...), api.ErrArg, api.ErrArg},
		{2, append(slices.Repeat(pairs(1, 2), 20), pairs(2, 2)...), api.ErrArg, api.ErrArg},
	} {
		if text, err := Spanning(c.n, c.l); err != c.spanning || err != api.OK && text != "" {
			t.Error(c.n, c.l, text, err, c.spanning)
		}
		if text, err := Rounds(c.n, c.l); err != c.rounds || err != api.OK && text != "" {
			t.Error(c.n, c.l, text, err, c.rounds)
		}
	}
}

// TestSpanningOfAllPairs: CAYLEY's count, and that of two sides.
func TestSpanningOfAllPairs(t *testing.T) {
	for n := 2; n <= 10; n++ {
		if text, err := Spanning(n, complete(n)); err != api.OK || text != power(n, n-2) {
			t.Error(n, text, err)
		}
	}
	for first := 1; first < 10; first++ {
		for others := 1; first+others <= 10; others++ {
			factors := slices.Concat(slices.Repeat([]int64{int64(first)}, others-1), slices.Repeat([]int64{int64(others)}, first-1))
			want := product(factors...)
			if text, err := Spanning(first+others, twoSides(first, others)); err != api.OK || text != want {
				t.Error(first, others, text, err, want)
			}
		}
	}
}

// TestSpanningOneByOne: what is counted is listed.
func TestSpanningOneByOne(t *testing.T) {
	r := rand.New(rand.NewSource(7))
	hold := func(n int, l []api.Pair) {
		if text, err := Spanning(n, l); err != api.OK || text != strconv.Itoa(treesOf(n, l)) {
			t.Fatal(n, l, text, err, treesOf(n, l))
		}
	}
	for n := 2; n <= 4; n++ {
		for edges := range 4 {
			eachList(2*edges, 1, n, func(ends []int) {
				l := pairs(ends...)
				if !slices.ContainsFunc(l, func(edge api.Pair) bool { return edge.A == edge.B }) {
					hold(n, l)
				}
			})
		}
	}
	for range 1000 {
		n := 2 + r.Intn(5)
		hold(n, randomEdges(r, n, r.Intn(11)))
	}
	for n := 7; n <= 10; n++ {
		for range 5 {
			hold(n, append(randomEdges(r, n, 13-n), chain(1, n)...))
		}
	}
}

// byFractions counts trees by a determinant that is made by elimination, with fractions of any size.
func byFractions(n int, l []api.Pair) string {
	rows := make([][]*big.Rat, n-1)
	for i := range rows {
		for range n - 1 {
			rows[i] = append(rows[i], new(big.Rat))
		}
	}
	add := func(v, w int, k int64) {
		if v < n && w < n {
			rows[v-1][w-1].Add(rows[v-1][w-1], big.NewRat(k, 1))
		}
	}
	for _, edge := range l {
		add(edge.A, edge.A, 1)
		add(edge.B, edge.B, 1)
		add(edge.A, edge.B, -1)
		add(edge.B, edge.A, -1)
	}
	result := big.NewRat(1, 1)
	for k := range rows {
		from := k
		for from < len(rows) && rows[from][k].Sign() == 0 {
			from++
		}
		if from == len(rows) {
			return "0"
		}
		if from != k {
			rows[from], rows[k] = rows[k], rows[from]
			result.Neg(result)
		}
		result.Mul(result, rows[k][k])
		for i := k + 1; i < len(rows); i++ {
			times := new(big.Rat).Quo(rows[i][k], rows[k][k])
			for j := k; j < len(rows); j++ {
				rows[i][j].Sub(rows[i][j], new(big.Rat).Mul(times, rows[k][j]))
			}
		}
	}
	return result.Num().String()
}

func TestSpanningOfManyEdges(t *testing.T) {
	r := rand.New(rand.NewSource(8))
	greatest := 0
	for range 1000 {
		n := 2 + r.Intn(9)
		l := randomEdges(r, n, r.Intn(61))
		text, err := Spanning(n, l)
		if err != api.OK || text != byFractions(n, l) {
			t.Fatal(n, l, text, err, byFractions(n, l))
		}
		if mixedText, err := Spanning(n, mixed(r, l)); err != api.OK || mixedText != text {
			t.Fatal(n, l, text, mixedText, err)
		}
		greatest = max(greatest, len(text))
	}
	if greatest < 9 {
		t.Error(greatest)
	}
}

func TestRounds(t *testing.T) {
	const nine = 362880
	for _, c := range []struct {
		n    int
		l    []api.Pair
		want string
	}{
		{1, nil, "0"},
		{10, nil, "0"},
		{2, pairs(1, 2), "0"},
		{2, pairs(1, 2, 1, 2), "0"},
		{2, pairs(1, 2, 2, 1), "1"},
		{10, pairs(9, 10, 10, 9), "1"},
		{4, pairs(1, 2, 2, 1, 3, 4, 4, 3), "0"},
		{2, pairs(1, 2, 2, 1, 1, 2, 2, 1), "2"},
		{3, pairs(1, 2, 2, 1, 1, 3, 3, 1), "1"},
		{3, pairs(1, 2, 2, 3), "0"},
		{3, pairs(1, 2, 2, 3, 1, 3), "0"},
		{3, pairs(1, 2, 2, 1, 2, 3), "0"},
		{4, ring(4), "1"},
		{4, ring(4)[:2], "0"},
		{10, ring(10), "1"},
		{10, slices.Repeat(ring(10), 2), "512"},
		{3, bothWays(complete(3)), "3"},
		{4, bothWays(complete(4)), "256"},
		{5, bothWays(complete(5)), "972000"},
		{10, bothWays(ring(10)), "10"},
		{2, slices.Repeat(pairs(1, 2, 2, 1), 10), product(10, nine, nine)},
		{2, append(slices.Repeat(pairs(1, 2, 2, 1), 9), pairs(1, 2, 1, 2)...), "0"},
		{2, slices.Repeat(pairs(1, 2), 20), "0"},
		{10, star(1, 10, 5), "0"},
		{10, bothWays(star(1, 10, 5)), product(40320)},
	} {
		if text, err := Rounds(c.n, c.l); err != api.OK || text != c.want {
			t.Error(c.n, c.l, text, err, c.want)
		}
	}
}

// TestRoundsOneByOne: what is counted is listed, where one begins makes no difference, and neither do vertices without arcs.
func TestRoundsOneByOne(t *testing.T) {
	r := rand.New(rand.NewSource(9))
	ways := 0
	hold := func(n int, l []api.Pair) {
		want := roundsOf(l)
		text, err := Rounds(n, l)
		if err != api.OK || text != strconv.Itoa(want) {
			t.Fatal(n, l, text, err, want)
		}
		if want > 1 {
			ways++
		}
		other := slices.Clone(l)
		r.Shuffle(len(l), func(i, j int) { other[i], other[j] = other[j], other[i] })
		for k, arc := range other {
			other[k] = api.Pair{A: 11 - arc.A, B: 11 - arc.B}
		}
		if again, err := Rounds(10, other); err != api.OK || again != text {
			t.Fatal(n, l, text, again, err)
		}
	}
	for n := 2; n <= 3; n++ {
		for arcs := range 5 {
			eachList(2*arcs, 1, n, func(ends []int) {
				l := pairs(ends...)
				if !slices.ContainsFunc(l, func(arc api.Pair) bool { return arc.A == arc.B }) {
					hold(n, l)
				}
			})
		}
	}
	for range 2000 {
		n := 2 + r.Intn(9)
		hold(n, randomEdges(r, n, r.Intn(9)))
		hold(n, randomRound(r, n, 2+r.Intn(10)))
		hold(n, append(randomRound(r, n, 2+r.Intn(4)), randomRound(r, n, 2+r.Intn(4))...))
	}
	for range 100 {
		hold(10, randomRound(r, 6+r.Intn(5), 14))
	}
	if ways < 1000 {
		t.Error(ways)
	}
}
