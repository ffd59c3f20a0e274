package chars

import (
	"math"
	"slices"
	"strconv"
	"testing"

	"ferrers/api"
	"ferrers/hooks"
	"ferrers/parts"
	"ferrers/sym"
)

// wideShapes are partitions, but of more than 12 boxes.
func wideShapes() [][]int {
	return [][]int{{13}, {12, 1}, {7, 6}, {20, 1}, {40}, {5, 4, 4, 3, 1}, slices.Repeat([]int{1}, 13), slices.Repeat([]int{1}, 40)}
}

func characterOf(t *testing.T, p, cycles []int) int {
	t.Helper()
	n, err := Character(p, cycles)
	if err != api.OK {
		t.Fatal(p, cycles, err)
	}
	return n
}

func classOf(t *testing.T, cycles []int) int {
	t.Helper()
	n, err := Class(cycles)
	if err != api.OK {
		t.Fatal(cycles, err)
	}
	return n
}

// productUpTo is the product of all numbers from 1 to n.
func productUpTo(n int) int {
	product := 1
	for k := 2; k <= n; k++ {
		product *= k
	}
	return product
}

// signOf is that of permutations with these cycles.
func signOf(cycles []int) int {
	if (boxesOf(cycles)-len(cycles))%2 == 1 {
		return -1
	}
	return 1
}

func TestCharacter(t *testing.T) {
	ones := slices.Repeat([]int{1}, 12)
	for _, c := range []struct {
		p, cycles []int
		want      int
	}{
		{nil, nil, 1},
		{[]int{}, nil, 1},
		{[]int{1}, []int{1}, 1},
		{[]int{2}, []int{2}, 1},
		{[]int{1, 1}, []int{2}, -1},
		{[]int{2, 1}, []int{3}, -1},
		{[]int{2, 1}, []int{2, 1}, 0},
		{[]int{2, 1}, []int{1, 1, 1}, 2},
		{[]int{2, 2}, []int{4}, 0},
		{[]int{2, 2}, []int{3, 1}, -1},
		{[]int{2, 2}, []int{2, 2}, 2},
		{[]int{3, 1, 1}, []int{5}, 1},
		{[]int{3, 1, 1}, []int{2, 2, 1}, -2},
		{[]int{3, 2}, []int{3, 2}, 1},
		{[]int{12}, []int{12}, 1},
		{ones, []int{12}, -1},
		{ones, []int{5, 4, 3}, -1},
		{[]int{12}, ones, 1},
		{[]int{5, 3, 2, 1, 1}, ones, 7700},
		{[]int{11, 1}, ones, 11},
		{[]int{11, 1}, []int{12}, -1},
		{[]int{6, 1, 1, 1, 1, 1, 1}, []int{12}, 1},
		{[]int{6, 6}, []int{12}, 0},
	} {
		if n, err := Character(c.p, c.cycles); err != api.OK || n != c.want {
			t.Error(c.p, c.cycles, n, err, c.want)
		}
	}
}

func TestTable(t *testing.T) {
	for n, want := range [][][]int{
		{{1}},
		{{1}},
		{{1, 1}, {-1, 1}},
		{{1, 1, 1}, {-1, 0, 2}, {1, -1, 1}},
		{{1, 1, 1, 1, 1}, {-1, 0, -1, 1, 3}, {0, -1, 2, 0, 2}, {1, 0, -1, -1, 3}, {-1, 1, 1, -1, 1}},
		{
			{1, 1, 1, 1, 1, 1, 1}, {-1, 0, -1, 1, 0, 2, 4}, {0, -1, 1, -1, 1, 1, 5}, {1, 0, 0, 0, -2, 0, 6},
			{0, 1, -1, -1, 1, -1, 5}, {-1, 0, 1, 1, 0, -2, 4}, {1, -1, -1, 1, 1, -1, 1},
		},
	} {
		if rows, err := Table(n); err != api.OK || !sameRows(rows, want) {
			t.Error(n, rows, err)
		}
	}
}

// TestTableIsOfCharacters: a row for each partition, and in it a character for each.
func TestTableIsOfCharacters(t *testing.T) {
	for n := range 9 {
		rows, err := Table(n)
		if err != api.OK {
			t.Fatal(n, err)
		}
		if !sameRows(rows, squareOf(t, n)) {
			t.Error(n, rows)
		}
	}
}

// byWords makes the character by strips that are found among all shapes, for cycles in any order.
func byWords(p, cycles []int) int {
	if len(cycles) == 0 {
		return 1
	}
	sum, left := 0, boxesOf(p)-cycles[0]
	for _, strip := range among(shapes(left), p, cycles[0]) {
		n := byWords(strip.Part, cycles[1:])
		if strip.Height%2 != 0 {
			n = -n
		}
		sum += n
	}
	return sum
}

// TestOrderMakesNoDifference: the parts of the cycles one way, the other way, and with the middle first.
func TestOrderMakesNoDifference(t *testing.T) {
	eachShape(7, func(p []int) {
		for _, cycles := range shapes(boxesOf(p)) {
			back := slices.Clone(cycles)
			slices.Reverse(back)
			middle := len(cycles) / 2
			moved := slices.Concat(cycles[middle:], cycles[:middle])
			n := characterOf(t, p, cycles)
			for _, order := range [][]int{cycles, back, moved} {
				if want := byWords(p, order); n != want {
					t.Fatal(p, order, n, want)
				}
			}
		}
	})
}

// squareOf lists all characters of a size, by partitions and cycles.
func squareOf(t *testing.T, n int) [][]int {
	t.Helper()
	var rows [][]int
	for _, p := range shapes(n) {
		var row []int
		for _, cycles := range shapes(n) {
			row = append(row, characterOf(t, p, cycles))
		}
		rows = append(rows, row)
	}
	return rows
}

// TestRowsAndColumnsAreOrthogonal: two rows have the product 0, each with itself as many as there are
// permutations, and two columns likewise, each with itself as many as go with one of its class.
func TestRowsAndColumnsAreOrthogonal(t *testing.T) {
	for n := range 13 {
		rows, all := squareOf(t, n), shapes(n)
		for a := range all {
			for b := range all {
				ofRows, ofColumns := 0, 0
				for k, cycles := range all {
					ofRows += classOf(t, cycles) * rows[a][k] * rows[b][k]
					ofColumns += rows[k][a] * rows[k][b]
				}
				wantRows, wantColumns := 0, 0
				if a == b {
					wantRows, wantColumns = productUpTo(n), productUpTo(n)/classOf(t, all[a])
				}
				if ofRows != wantRows || ofColumns != wantColumns {
					t.Fatal(all[a], all[b], ofRows, ofColumns)
				}
			}
		}
	}
}

// fixedPairs tells how many pairs of unlike numbers such a permutation leaves where they are.
func fixedPairs(fixed, twos int) int {
	return fixed*(fixed-1)/2 + twos
}

// TestCharactersThatAreKnown: at single numbers as many as standard tableaux; of one row 1, of one column the sign;
// of the conjugate the sign times it; and those that come of numbers and of pairs that stay where they are.
func TestCharactersThatAreKnown(t *testing.T) {
	for n := range 13 {
		for _, p := range shapes(n) {
			q, _ := parts.Conjugate(p)
			count, err := hooks.Standard(p)
			if got := strconv.Itoa(characterOf(t, p, slices.Repeat([]int{1}, n))); err != api.OK || got != count {
				t.Fatal(p, got, count, err)
			}
			for _, cycles := range shapes(n) {
				if characterOf(t, p, cycles) != signOf(cycles)*characterOf(t, q, cycles) {
					t.Fatal(p, q, cycles)
				}
			}
		}
		for _, cycles := range shapes(n) {
			fixed, twos := 0, 0
			for _, length := range cycles {
				if length == 1 {
					fixed++
				}
				if length == 2 {
					twos++
				}
			}
			if got := characterOf(t, shapes(n)[0], cycles); got != 1 {
				t.Fatal(cycles, got)
			}
			if got := characterOf(t, slices.Repeat([]int{1}, n), cycles); got != signOf(cycles) {
				t.Fatal(cycles, got)
			}
			if n >= 2 && characterOf(t, []int{n - 1, 1}, cycles) != fixed-1 {
				t.Fatal(cycles)
			}
			if n >= 4 && characterOf(t, []int{n - 2, 2}, cycles) != fixedPairs(fixed, twos)-fixed {
				t.Fatal(cycles)
			}
		}
	}
}

// TestPowerSumsBySchurs: the number that Schur's polynomial of p has in a power sum is a character (FROBENIUS).
func TestPowerSumsBySchurs(t *testing.T) {
	for n := range 9 {
		for _, cycles := range shapes(n) {
			terms, err := sym.Convert(api.Power, api.Schur, []api.Term{{Part: cycles, N: "1"}})
			if err != api.OK {
				t.Fatal(cycles, err)
			}
			for _, p := range shapes(n) {
				want := "0"
				for _, term := range terms {
					if slices.Equal(term.Part, p) {
						want = term.N
					}
				}
				if got := strconv.Itoa(characterOf(t, p, cycles)); got != want {
					t.Fatal(p, cycles, got, want)
				}
			}
		}
	}
}

func TestClass(t *testing.T) {
	for _, c := range []struct {
		cycles []int
		want   int
	}{
		{nil, 1},
		{[]int{}, 1},
		{[]int{1}, 1},
		{[]int{2}, 1},
		{[]int{1, 1}, 1},
		{[]int{2, 1}, 3},
		{[]int{3}, 2},
		{[]int{2, 2}, 3},
		{[]int{2, 2, 1}, 15},
		{[]int{2, 1, 1, 1}, 10},
		{[]int{3, 3, 2, 2, 1, 1}, 479001600 / (9 * 2 * 4 * 2 * 2)},
		{[]int{12}, 39916800},
		{[]int{6, 6}, 6652800},
		{[]int{2, 2, 2, 2, 2, 2}, 10395},
		{slices.Repeat([]int{1}, 12), 1},
		{[]int{11, 1}, 43545600},
	} {
		if n, err := Class(c.cycles); err != api.OK || n != c.want {
			t.Error(c.cycles, n, err, c.want)
		}
	}
}

// eachPermutation hands on all of n numbers.
func eachPermutation(n int, do func(p []int)) {
	var list []int
	var put func()
	put = func() {
		if len(list) == n {
			do(list)
			return
		}
		for k := 1; k <= n; k++ {
			if !slices.Contains(list, k) {
				list = append(list, k)
				put()
				list = list[:len(list)-1]
			}
		}
	}
	put()
}

// cyclesOf tells the lengths of the cycles of p, the greatest first.
func cyclesOf(p []int) []int {
	met := make([]bool, len(p))
	var lengths []int
	for i := range p {
		length := 0
		for at := i; !met[at]; at = p[at] - 1 {
			met[at] = true
			length++
		}
		if length > 0 {
			lengths = append(lengths, length)
		}
	}
	slices.Sort(lengths)
	slices.Reverse(lengths)
	return lengths
}

// TestWhatIsCountedIsListed: permutations by their cycles, one by one.
func TestWhatIsCountedIsListed(t *testing.T) {
	for n := range 9 {
		counts := make([]int, len(shapes(n)))
		all := shapes(n)
		eachPermutation(n, func(p []int) {
			lengths := cyclesOf(p)
			counts[slices.IndexFunc(all, func(q []int) bool { return slices.Equal(q, lengths) })]++
		})
		for i, cycles := range all {
			if got := classOf(t, cycles); got != counts[i] {
				t.Error(cycles, got, counts[i])
			}
		}
	}
}

// TestClassesAreAllPermutations: up to the greatest size.
func TestClassesAreAllPermutations(t *testing.T) {
	for n := range 13 {
		sum := 0
		for _, cycles := range shapes(n) {
			sum += classOf(t, cycles)
		}
		if sum != productUpTo(n) {
			t.Error(n, sum)
		}
	}
}

func TestErrorsOfCharacter(t *testing.T) {
	check := func(p, cycles []int, want api.Errno) {
		t.Helper()
		if n, err := Character(p, cycles); n != 0 || err != want {
			t.Error(len(p), len(cycles), n, err, want)
		}
	}
	for want, list := range badPartitions() {
		for _, bad := range list {
			for _, other := range append(wideShapes(), nil, []int{}, []int{1}, []int{3, 2, 1}) {
				check(bad, other, want)
				check(other, bad, want)
			}
			// The first list is looked at first.
			for wantOther, others := range badPartitions() {
				for _, other := range others {
					check(bad, other, want)
					check(other, bad, wantOther)
				}
			}
		}
	}
	for _, c := range []struct{ p, cycles []int }{
		{nil, []int{1}}, {[]int{1}, nil}, {[]int{2}, []int{1}}, {[]int{1}, []int{2}}, {[]int{2, 1}, []int{2, 2}},
		{[]int{12}, []int{13}}, {[]int{13}, []int{12}}, {[]int{13}, []int{14}}, {[]int{40}, []int{39}}, {nil, []int{40}},
	} {
		check(c.p, c.cycles, api.ErrShape)
	}
	for _, p := range wideShapes() {
		for _, cycles := range wideShapes() {
			want := api.ErrShape
			if boxesOf(p) == boxesOf(cycles) {
				want = api.ErrLarge
			}
			check(p, cycles, want)
		}
	}
}

func TestErrorsOfTable(t *testing.T) {
	for _, n := range []int{-1, 9, 10, 12, 20, 21, 40, -8, math.MinInt, math.MaxInt} {
		if rows, err := Table(n); rows != nil || err != api.ErrArg {
			t.Error(n, len(rows), err)
		}
	}
}

func TestErrorsOfClass(t *testing.T) {
	for want, list := range badPartitions() {
		for _, p := range list {
			if n, err := Class(p); n != 0 || err != want {
				t.Error(len(p), n, err, want)
			}
		}
	}
	for _, p := range wideShapes() {
		if n, err := Class(p); n != 0 || err != api.ErrLarge {
			t.Error(p, n, err)
		}
	}
}
