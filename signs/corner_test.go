package signs

import (
	"math"
	"slices"
	"testing"

	"ferrers/api"
	"ferrers/perms"
)

// cornerOf adds up by P39's words.
func cornerOf(m [][]int) [][]int {
	c := square(len(m)+1, 0)
	for i := range c {
		for j := range c {
			for k := range i {
				for l := range j {
					c[i][j] += m[k][l]
				}
			}
		}
	}
	return c
}

func TestCorner(t *testing.T) {
	for _, c := range []struct{ m, want [][]int }{
		{[][]int{{1}}, [][]int{{0, 0}, {0, 1}}},
		{[][]int{{1, 0}, {0, 1}}, [][]int{{0, 0, 0}, {0, 1, 1}, {0, 1, 2}}},
		{[][]int{{0, 1}, {1, 0}}, [][]int{{0, 0, 0}, {0, 0, 1}, {0, 1, 2}}},
		{[][]int{{0, 1, 0}, {0, 0, 1}, {1, 0, 0}}, [][]int{{0, 0, 0, 0}, {0, 0, 1, 1}, {0, 0, 1, 2}, {0, 1, 2, 3}}},
		{[][]int{{0, 1, 0}, {1, -1, 1}, {0, 1, 0}}, [][]int{{0, 0, 0, 0}, {0, 0, 1, 1}, {0, 1, 1, 2}, {0, 1, 2, 3}}},
	} {
		if got, err := Corner(c.m); err != api.OK || !sameRows(got, c.want) {
			t.Error(c, got, err)
		}
		if back, err := FromCorner(c.want); err != api.OK || !sameRows(back, c.m) {
			t.Error(c, back, err)
		}
	}
}

// TestCornerAndBack, of all small matrices and of some great ones.
func TestCornerAndBack(t *testing.T) {
	for _, m := range someMatrices() {
		c, err := Corner(m)
		if err != api.OK || !sameRows(c, cornerOf(m)) {
			t.Fatal(m, c, err)
		}
		if back, err := FromCorner(c); err != api.OK || !sameRows(back, m) {
			t.Fatal(m, c, back, err)
		}
	}
}

// noCorner tells that c is refused.
func noCorner(t *testing.T, c [][]int) {
	t.Helper()
	if m, err := FromCorner(c); m != nil || err != api.ErrArg {
		t.Fatal(c, m, err)
	}
}

func TestErrorsOfFromCorner(t *testing.T) {
	for _, c := range [][][]int{
		nil, {}, {nil}, {{}}, {{0}}, {{0, 0}}, {{0}, {0}}, {{0, 0}, {0}}, {{0}, {0, 1}}, {{}, {}}, {{0, 0}, {0, 1, 1}}, {{0, 0}, {0, 1}, {0, 1}},
		{{0, 0}, {0, 0}}, {{1, 1}, {1, 1}}, {{1, 1}, {1, 2}}, {{0, 1}, {0, 2}}, {{0, 0}, {1, 2}}, {{0, 0}, {0, -1}}, {{0, 0}, {0, 2}}, {{-1, 0}, {0, 0}},
		{{0, 0, 0}, {0, 1, 1}}, {{0, 0, 0}, {0, 1, 1}, {0, 1}}, {{0, 0, 0}, {0, 1, 1}, {0, 1, 2, 2}}, {{0, 0, 0, 0}, {0, 1, 1, 1}, {0, 1, 2, 2}},
		{{0, 0, 0}, {0, 0, 0}, {0, 0, 0}}, {{0, 0, 0}, {0, 1, 2}, {0, 2, 4}}, {{0, 0, 0}, {0, 2, 1}, {0, 1, 2}}, {{0, 0, 0}, {0, -1, 1}, {0, 1, 2}},
		{{math.MinInt, math.MinInt}, {math.MinInt, math.MinInt + 1}}, {{math.MaxInt, math.MaxInt}, {math.MaxInt, math.MinInt}}, {{math.MinInt, 0}, {0, math.MinInt + 1}},
		cornerOf(inOrder(8)), cornerOf(backward(inOrder(8))), cornerOf(inOrder(20)), square(8, 0), square(8, 1), square(9, 0), square(1000, 0),
		make([][]int, 8), {make([]int, 1000)}, cornerOf(inOrder(7))[:7], append(cornerOf(inOrder(6)), make([]int, 7)), append(cornerOf(inOrder(7))[:7], nil),
	} {
		noCorner(t, c)
	}
	for _, m := range badMatrices() {
		if len(m) > 0 && len(m) <= 8 && !slices.ContainsFunc(m, func(row []int) bool { return len(row) != len(m) }) {
			noCorner(t, cornerOf(m))
		}
	}
}

// TestFromCornerOfAllTables: there is a matrix for the corners of matrices alone.
func TestFromCornerOfAllTables(t *testing.T) {
	for _, c := range []struct {
		lengths               []int
		least, greatest, want int
	}{
		{[]int{2, 2}, -3, 3, 1},
		{[]int{3, 3, 3}, 0, 2, 2},
		{[]int{3, 3, 3}, -1, 1, 0},
	} {
		got := 0
		corners := matrices(len(c.lengths) - 1)
		eachTable(c.lengths, c.least, c.greatest, func(table [][]int) {
			k := slices.IndexFunc(corners, func(m [][]int) bool { return sameRows(cornerOf(m), table) })
			if k < 0 {
				noCorner(t, table)
				return
			}
			got++
			if m, err := FromCorner(table); err != api.OK || !sameRows(m, corners[k]) {
				t.Fatal(table, m, err)
			}
		})
		if got != c.want {
			t.Error(c, got)
		}
	}
}

// TestFromCornerOfEachPlace: another number may be that of another matrix, with the difference in that place alone.
func TestFromCornerOfEachPlace(t *testing.T) {
	other := 0
	for _, m := range someMatrices() {
		c := cornerOf(m)
		for i, row := range c {
			for j := range row {
				for _, by := range []int{-1, 1, 2, -7, 1 << 32, math.MinInt} {
					row[j] += by
					got, err := FromCorner(c)
					if err == api.OK {
						other++
					}
					if err == api.OK && (!isMatrix(got) || !sameRows(cornerOf(got), c)) || err != api.OK && (got != nil || err != api.ErrArg) {
						t.Fatal(c, i, j, got, err)
					}
					row[j] -= by
				}
			}
		}
	}
	if other < 1000 {
		t.Error(other)
	}
}

// TestFromCornerOfGreatNumbers: numbers that go round to what the places of a matrix are made of.
func TestFromCornerOfGreatNumbers(t *testing.T) {
	for _, m := range someMatrices() {
		for k := range len(m) + 1 {
			for _, by := range []int{1, -1, math.MinInt, math.MaxInt, 1 << 62} {
				inRow, inColumn, everywhere := cornerOf(m), cornerOf(m), cornerOf(m)
				for l := range len(m) + 1 {
					inRow[k][l] += by
					inColumn[l][k] += by
					everywhere[k][l] += by
					everywhere[l][k] += by
				}
				noCorner(t, inRow)
				noCorner(t, inColumn)
				noCorner(t, everywhere)
			}
		}
	}
}

// isBelow holds one Corner against the other by P39's words.
func isBelow(a, b [][]int) bool {
	c, d := slices.Concat(cornerOf(a)...), slices.Concat(cornerOf(b)...)
	for k := range c {
		if c[k] < d[k] {
			return false
		}
	}
	return true
}

func belowOf(t *testing.T, a, b [][]int) bool {
	t.Helper()
	is, err := Below(a, b)
	if err != api.OK {
		t.Fatal(a, b, err)
	}
	return is
}

func meetAndJoin(t *testing.T, a, b [][]int) (meet, join [][]int) {
	t.Helper()
	meet, err := Meet(a, b)
	join, other := Join(a, b)
	if err != api.OK || other != api.OK {
		t.Fatal(a, b, err, other)
	}
	return meet, join
}

func TestBelow(t *testing.T) {
	m := [][]int{{0, 1, 0}, {1, -1, 1}, {0, 1, 0}}
	for _, c := range []struct {
		a, b [][]int
		want bool
	}{
		{inOrder(1), inOrder(1), true},
		{inOrder(2), backward(inOrder(2)), true},
		{backward(inOrder(2)), inOrder(2), false},
		{ofPermutation(2, 1, 3), ofPermutation(1, 3, 2), false},
		{ofPermutation(1, 3, 2), ofPermutation(2, 1, 3), false},
		{ofPermutation(2, 1, 3), m, true},
		{ofPermutation(1, 3, 2), m, true},
		{m, ofPermutation(2, 1, 3), false},
		{m, ofPermutation(2, 3, 1), true},
		{m, ofPermutation(3, 1, 2), true},
		{ofPermutation(3, 1, 2), m, false},
		{m, m, true},
		{inOrder(7), backward(inOrder(7)), true},
		{backward(inOrder(7)), inOrder(7), false},
	} {
		if got := belowOf(t, c.a, c.b); got != c.want {
			t.Error(c, got)
		}
	}
}

// TestBelowOfAll: all two of up to 4 rows, and some of more.
func TestBelowOfAll(t *testing.T) {
	for n := 1; n <= 7; n++ {
		list := spreadMatrices(n, 80)
		for _, a := range list {
			for _, b := range list {
				if got := belowOf(t, a, b); got != isBelow(a, b) {
					t.Fatal(a, b, got)
				}
			}
		}
	}
}

// TestBelowOfPermutations: as perms.Below has it.
func TestBelowOfPermutations(t *testing.T) {
	for n := 1; n <= 5; n++ {
		var list [][]int
		eachTable([]int{n}, 1, n, func(p [][]int) {
			if perms.Check(p[0]) == api.OK {
				list = append(list, slices.Clone(p[0]))
			}
		})
		for _, p := range list {
			for _, q := range list {
				want, err := perms.Below(p, q)
				if got := belowOf(t, ofPermutation(p...), ofPermutation(q...)); err != api.OK || got != want {
					t.Fatal(p, q, got, want, err)
				}
			}
		}
	}
}

func TestMeetAndJoin(t *testing.T) {
	m := [][]int{{0, 1, 0}, {1, -1, 1}, {0, 1, 0}}
	for _, c := range []struct{ a, b, meet, join [][]int }{
		{inOrder(1), inOrder(1), inOrder(1), inOrder(1)},
		{inOrder(2), backward(inOrder(2)), inOrder(2), backward(inOrder(2))},
		{ofPermutation(2, 1, 3), ofPermutation(1, 3, 2), inOrder(3), m},
		{ofPermutation(2, 3, 1), ofPermutation(3, 1, 2), m, backward(inOrder(3))},
		{m, ofPermutation(2, 3, 1), m, ofPermutation(2, 3, 1)},
		{m, ofPermutation(2, 1, 3), ofPermutation(2, 1, 3), m},
		{inOrder(7), backward(inOrder(7)), inOrder(7), backward(inOrder(7))},
	} {
		for range 2 {
			if meet, join := meetAndJoin(t, c.a, c.b); !sameRows(meet, c.meet) || !sameRows(join, c.join) {
				t.Error(c, meet, join)
			}
			c.a, c.b = c.b, c.a
		}
	}
}

// TestMeetAndJoinOfAll: by their Corners.
func TestMeetAndJoinOfAll(t *testing.T) {
	for n := 1; n <= 7; n++ {
		list := spreadMatrices(n, 80)
		for _, a := range list {
			for _, b := range list {
				meet, join := meetAndJoin(t, a, b)
				c, d := cornerOf(a), cornerOf(b)
				for i := range c {
					for j := range c {
						c[i][j], d[i][j] = max(c[i][j], d[i][j]), min(c[i][j], d[i][j])
					}
				}
				if !isMatrix(meet) || !isMatrix(join) || !sameRows(cornerOf(meet), c) || !sameRows(cornerOf(join), d) {
					t.Fatal(a, b, meet, join)
				}
			}
		}
	}
}

// TestLattice: whatever is Below both is Below their Meet, and no other; likewise of what both are Below.
func TestLattice(t *testing.T) {
	for n := 1; n <= 4; n++ {
		list := matrices(n)
		for _, a := range list {
			for _, b := range list {
				meet, join := meetAndJoin(t, a, b)
				for _, x := range list {
					if belowOf(t, x, meet) != (belowOf(t, x, a) && belowOf(t, x, b)) {
						t.Fatal(a, b, meet, x)
					}
					if belowOf(t, join, x) != (belowOf(t, a, x) && belowOf(t, b, x)) {
						t.Fatal(a, b, join, x)
					}
				}
			}
		}
	}
}

// TestErrorsOfTwo: matrices of other numbers of rows.
func TestErrorsOfTwo(t *testing.T) {
	for n := 1; n <= 7; n++ {
		for m := 1; m <= 7; m++ {
			if n == m {
				continue
			}
			for _, c := range calls() {
				if got := c.do(input{a: inOrder(n), b: backward(inOrder(m))}); c.ofTwo && !got.same(answer{err: api.ErrShape}) {
					t.Error(c.name, n, m, got)
				}
			}
		}
	}
}
