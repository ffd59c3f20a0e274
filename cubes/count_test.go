package cubes

import (
	"math"
	"math/big"
	"slices"
	"strconv"
	"testing"

	"ferrers/api"
)

func countOf(t *testing.T, rows, columns, height int) string {
	t.Helper()
	text, err := Count(rows, columns, height)
	if err != api.OK {
		t.Fatal(rows, columns, height, err)
	}
	return text
}

func TestCount(t *testing.T) {
	for _, c := range []struct {
		rows, columns, height int
		want                  string
	}{
		{0, 0, 0, "1"},
		{0, 0, 20, "1"},
		{0, 20, 0, "1"},
		{20, 0, 0, "1"},
		{0, 20, 20, "1"},
		{20, 0, 20, "1"},
		{20, 20, 0, "1"},
		{1, 1, 0, "1"},
		{1, 1, 1, "2"},
		{1, 1, 20, "21"},
		{1, 20, 1, "21"},
		{20, 1, 1, "21"},
		{2, 2, 1, "6"},
		{2, 2, 2, "20"},
		{2, 2, 3, "50"},
		{2, 3, 2, "50"},
		{3, 3, 2, "175"},
		{3, 3, 3, "980"},
		{4, 4, 4, "232848"},
		{5, 5, 5, "267227532"},
		{6, 6, 6, "1478619421136"},
		{7, 7, 7, "39405996318420160"},
		{8, 8, 8, "5055160684040254910720"},
		{1, 20, 20, "137846528820"},
	} {
		if text, err := Count(c.rows, c.columns, c.height); err != api.OK || text != c.want {
			t.Error(c, text, err)
		}
	}
}

// TestCountIsListed: one by one, of all tables of numbers.
func TestCountIsListed(t *testing.T) {
	for _, r := range smallRooms() {
		n := 0
		eachPile(r.rows, r.columns, r.height, func([][]int) { n++ })
		if got := countOf(t, r.rows, r.columns, r.height); got != strconv.Itoa(n) {
			t.Error(r, got, n)
		}
	}
}

// TestCountIsADeterminant: each level's edge is a path, and they keep apart if each begins a step further on
// (LINDSTROEM, GESSEL, VIENNOT).
func TestCountIsADeterminant(t *testing.T) {
	for rows := range 21 {
		for columns := range 21 {
			for height := range 21 {
				if height > 6 && (rows+columns+height)%7 != 0 {
					continue
				}
				want := determinant(height, func(i, j int) *big.Int {
					if columns-i+j < 0 || columns-i+j > rows+columns {
						return new(big.Int)
					}
					return new(big.Int).Binomial(int64(rows+columns), int64(columns-i+j))
				})
				if got := countOf(t, rows, columns, height); got != want.String() {
					t.Fatal(rows, columns, height, got, want)
				}
			}
		}
	}
}

// determinant is reckoned without fractions (BAREISS).
func determinant(n int, entry func(i, j int) *big.Int) *big.Int {
	table := make([][]*big.Int, n)
	for i := range table {
		for j := range n {
			table[i] = append(table[i], entry(i, j))
		}
	}
	last := big.NewInt(1)
	for k := range n {
		if table[k][k].Sign() == 0 {
			panic("a minor is 0")
		}
		for i := k + 1; i < n; i++ {
			for j := k + 1; j < n; j++ {
				a := new(big.Int).Mul(table[i][j], table[k][k])
				b := new(big.Int).Mul(table[i][k], table[k][j])
				table[i][j] = a.Quo(a.Sub(a, b), last)
			}
		}
		last = table[k][k]
	}
	return last
}

// TestCountOfRoomsOnTheirSides: what is a row, a column or a level makes no difference.
func TestCountOfRoomsOnTheirSides(t *testing.T) {
	for a := range 21 {
		for b := range a + 1 {
			for c := range b + 1 {
				want := countOf(t, a, b, c)
				for _, r := range []room{{a, c, b}, {b, a, c}, {b, c, a}, {c, a, b}, {c, b, a}} {
					if got := countOf(t, r.rows, r.columns, r.height); got != want {
						t.Fatal(r, got, want)
					}
				}
			}
		}
	}
}

func TestErrorsOfCount(t *testing.T) {
	for _, bad := range []int{-1, 21, 22, -20, 1000, math.MinInt, math.MaxInt} {
		for _, other := range []int{0, 1, 2, 20, bad} {
			for _, r := range []room{{bad, other, other}, {other, bad, other}, {other, other, bad}, {bad, 0, 20}, {20, bad, 0}, {0, 20, bad}} {
				if text, err := Count(r.rows, r.columns, r.height); text != "" || err != api.ErrArg {
					t.Error(r, text, err)
				}
			}
		}
	}
}

func seriesOf(t *testing.T, n int) []string {
	t.Helper()
	list, err := Series(n)
	if err != api.OK || len(list) != n+1 {
		t.Fatal(n, list, err)
	}
	return list
}

func TestSeries(t *testing.T) {
	want := []string{
		"1", "1", "3", "6", "13", "24", "48", "86", "160", "282", "500", "859", "1479", "2485", "4167", "6879", "11297", "18334", "29601", "47330", "75278",
	}
	for n := range want {
		if list := seriesOf(t, n); !slices.Equal(list, want[:n+1]) {
			t.Error(n, list)
		}
	}
	whole := seriesOf(t, 60)
	for n := range 61 {
		if list := seriesOf(t, n); !slices.Equal(list, whole[:n+1]) {
			t.Error(n, list)
		}
	}
}

// TestSeriesBySquares: k times what is told of k is the sum, over all lesser numbers, of what is told of them
// times the squares of the divisors of what they are less.
func TestSeriesBySquares(t *testing.T) {
	want := []*big.Int{big.NewInt(1)}
	for k := 1; k <= 60; k++ {
		sum := new(big.Int)
		for lesser := range k {
			squares := int64(0)
			for d := 1; d <= k-lesser; d++ {
				if (k-lesser)%d == 0 {
					squares += int64(d * d)
				}
			}
			sum.Add(sum, new(big.Int).Mul(want[lesser], big.NewInt(squares)))
		}
		want = append(want, sum.Div(sum, big.NewInt(int64(k))))
	}
	for k, text := range seriesOf(t, 60) {
		if text != want[k].String() {
			t.Error(k, text, want[k])
		}
	}
}

// TestSeriesIsListed: one by one, in a room whose walls are too far to be reached.
func TestSeriesIsListed(t *testing.T) {
	counts := make([]int, 14)
	// Noughts are left out, so each row is no longer than the row ahead.
	var row func(ahead, soFar []int, left, used int)
	row = func(ahead, soFar []int, left, used int) {
		if len(soFar) == 0 {
			counts[used]++
		} else {
			row(soFar, nil, left, used)
		}
		if len(soFar) == len(ahead) {
			return
		}
		most := min(left, ahead[len(soFar)])
		if len(soFar) > 0 {
			most = min(most, soFar[len(soFar)-1])
		}
		for n := 1; n <= most; n++ {
			row(ahead, append(slices.Clone(soFar), n), left-n, used+n)
		}
	}
	row(slices.Repeat([]int{13}, 13), nil, 13, 0)
	for k, text := range seriesOf(t, 13) {
		if text != strconv.Itoa(counts[k]) {
			t.Error(k, text, counts[k])
		}
	}
}

func TestErrorsOfSeries(t *testing.T) {
	for _, n := range []int{-1, 61, 62, -60, 1000, math.MinInt, math.MaxInt} {
		if list, err := Series(n); list != nil || err != api.ErrArg {
			t.Error(n, list, err)
		}
	}
}

func TestAll(t *testing.T) {
	for _, c := range []struct {
		rows, columns, height int
		want                  [][][]int
	}{
		{1, 1, 1, [][][]int{{{0}}, {{1}}}},
		{1, 1, 3, [][][]int{{{0}}, {{1}}, {{2}}, {{3}}}},
		{1, 2, 2, [][][]int{{{0, 0}}, {{1, 0}}, {{1, 1}}, {{2, 0}}, {{2, 1}}, {{2, 2}}}},
		{2, 1, 1, [][][]int{{{0}, {0}}, {{1}, {0}}, {{1}, {1}}}},
		{2, 2, 1, [][][]int{
			{{0, 0}, {0, 0}}, {{1, 0}, {0, 0}}, {{1, 0}, {1, 0}}, {{1, 1}, {0, 0}}, {{1, 1}, {1, 0}}, {{1, 1}, {1, 1}},
		}},
	} {
		list, err := All(c.rows, c.columns, c.height)
		if err != api.OK || !slices.EqualFunc(list, c.want, sameRows) {
			t.Error(c, list, err)
		}
	}
	if list, err := All(2, 2, 2); err != api.OK || len(list) != 20 {
		t.Error(list, err)
	}
}

// TestAllAgainstAllTables: they are gone through in the same order.
func TestAllAgainstAllTables(t *testing.T) {
	for _, r := range smallRooms() {
		var want [][][]int
		eachPile(r.rows, r.columns, r.height, func(p [][]int) { want = append(want, cloneRows(p)) })
		list, err := All(r.rows, r.columns, r.height)
		if err != api.OK || !slices.EqualFunc(list, want, sameRows) {
			t.Error(r, len(list), err, len(want))
		}
	}
}

// TestAllOfAllRooms: as many as Count says, each once, in order; ErrLarge, if there are more than 2000.
func TestAllOfAllRooms(t *testing.T) {
	listed, most, least := 0, 0, math.MaxInt
	for rows := 1; rows <= 8; rows++ {
		for columns := 1; columns <= 8; columns++ {
			for height := 1; height <= 8; height++ {
				list, err := All(rows, columns, height)
				many, wrong := strconv.Atoi(countOf(t, rows, columns, height))
				if wrong != nil || many > 2000 {
					if list != nil || err != api.ErrLarge {
						t.Error(rows, columns, height, len(list), err)
					}
					if wrong == nil {
						least = min(least, many)
					}
					continue
				}
				listed++
				most = max(most, many)
				if err != api.OK || len(list) != many {
					t.Fatal(rows, columns, height, len(list), err, many)
				}
				listHeld(t, list, room{rows, columns, height})
			}
		}
	}
	if most != 1764 || least != 2520 {
		t.Error("no room comes nearer to 2000 than these:", most, least)
	}
	if listed < 100 {
		t.Error("few rooms were listed:", listed)
	}
}

// listHeld tells whether all are piles in the room, in order.
func listHeld(t *testing.T, list [][][]int, r room) {
	t.Helper()
	for k, p := range list {
		if len(p) != r.rows || !isPile(p, r.height) || slices.ContainsFunc(p, func(row []int) bool { return len(row) != r.columns }) {
			t.Fatal(r, k, p)
		}
		if k > 0 && slices.Compare(slices.Concat(list[k-1]...), slices.Concat(p...)) >= 0 {
			t.Fatal(r, list[k-1], p)
		}
	}
}

func TestErrorsOfAll(t *testing.T) {
	for _, bad := range []int{0, -1, 9, 10, 20, -8, math.MinInt, math.MaxInt} {
		for _, other := range []int{1, 2, 8, bad} {
			for _, r := range []room{{bad, other, other}, {other, bad, other}, {other, other, bad}, {bad, 1, 8}, {8, bad, 1}, {1, 8, bad}} {
				if list, err := All(r.rows, r.columns, r.height); list != nil || err != api.ErrArg {
					t.Error(r, len(list), err)
				}
			}
		}
	}
}
