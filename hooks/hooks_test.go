package hooks

import (
	"math"
	"math/big"
	"slices"
	"strconv"
	"strings"
	"testing"

	"ferrers/api"
	"ferrers/fill"
)

// badPartitions are lists that are no partitions, with what is said of them.
func badPartitions() map[api.Errno][][]int {
	long := slices.Repeat([]int{1}, 41)
	return map[api.Errno][][]int{
		api.ErrArg: {
			{0}, {-1}, {1, 2}, {3, 1, 2}, {2, 1, 0}, {2, -1}, {math.MinInt},
			{5, math.MaxInt}, {0, 0}, {41, 0}, {40, 0}, {40, 1, 2}, {math.MaxInt, math.MaxInt, 0},
			append(slices.Clone(long), 2), make([]int, 1<<12),
		},
		api.ErrLarge: {
			{41}, {40, 1}, {39, 2}, {20, 20, 1}, long, {math.MaxInt}, {math.MaxInt, math.MaxInt, 2},
			{1 << 62, 1 << 62, 1 << 62, 1 << 62}, slices.Repeat([]int{1}, 1<<12),
		},
	}
}

// shapes lists the partitions of n with parts up to most, made here so that parts.All's bound does not hold.
func shapes(n, most int) [][]int {
	if n == 0 {
		return [][]int{nil}
	}
	var list [][]int
	for part := 1; part <= min(n, most); part++ {
		for _, rest := range shapes(n-part, part) {
			list = append(list, append([]int{part}, rest...))
		}
	}
	return list
}

// eachShape hands on all shapes of up to n boxes.
func eachShape(n int, do func(p []int)) {
	for m := range n + 1 {
		for _, p := range shapes(m, m) {
			do(p)
		}
	}
}

// greatShapes have 40 boxes, or nearly.
func greatShapes() [][]int {
	return [][]int{
		{40}, {39, 1}, {39}, {20, 20}, {10, 10, 10, 10}, {8, 8, 8, 8, 8}, {8, 7, 6, 5, 4, 3, 2, 1}, {9, 7, 6, 5, 4, 3, 2, 2, 1, 1},
		{7, 6, 6, 6, 5, 5, 5}, slices.Repeat([]int{1}, 40), slices.Repeat([]int{2}, 20), append([]int{20}, slices.Repeat([]int{1}, 20)...),
		{21, 19}, {8, 8, 7, 6, 4, 3, 2, 1, 1}, {6, 6, 6, 6, 6, 6, 4},
	}
}

func sameRows(a, b [][]int) bool {
	return slices.EqualFunc(a, b, slices.Equal)
}

func hasBox(p []int, i, j int) bool {
	return i < len(p) && j < p[i]
}

func TestHooks(t *testing.T) {
	for _, c := range []struct {
		p    []int
		want [][]int
	}{
		{nil, nil},
		{[]int{}, nil},
		{[]int{1}, [][]int{{1}}},
		{[]int{3}, [][]int{{3, 2, 1}}},
		{[]int{1, 1, 1}, [][]int{{3}, {2}, {1}}},
		{[]int{2, 1}, [][]int{{3, 1}, {1}}},
		{[]int{2, 2}, [][]int{{3, 2}, {2, 1}}},
		{[]int{4, 3, 1}, [][]int{{6, 4, 3, 1}, {4, 2, 1}, {1}}},
		{[]int{3, 1, 1}, [][]int{{5, 2, 1}, {2}, {1}}},
		{[]int{5, 4, 3, 2, 1}, [][]int{{9, 7, 5, 3, 1}, {7, 5, 3, 1}, {5, 3, 1}, {3, 1}, {1}}},
		{[]int{21, 1}, [][]int{{22, 20, 19, 18, 17, 16, 15, 14, 13, 12, 11, 10, 9, 8, 7, 6, 5, 4, 3, 2, 1}, {1}}},
	} {
		if rows, err := Hooks(c.p); err != api.OK || !sameRows(rows, c.want) {
			t.Error(c.p, rows, err)
		}
	}
}

// hookOf counts the boxes of the hook one by one.
func hookOf(p []int, i, j int) int {
	boxes := 0
	for row := range 40 {
		for column := range 40 {
			inHook := row == i && column >= j || column == j && row >= i
			if inHook && hasBox(p, row, column) {
				boxes++
			}
		}
	}
	return boxes
}

func TestHooksBoxByBox(t *testing.T) {
	check := func(p []int) {
		rows, err := Hooks(p)
		if err != api.OK || len(rows) != len(p) {
			t.Fatal(p, rows, err)
		}
		for i, part := range p {
			if len(rows[i]) != part {
				t.Fatal(p, rows)
			}
			for j, hook := range rows[i] {
				if hook != hookOf(p, i, j) {
					t.Fatal(p, rows, i, j)
				}
			}
		}
	}
	eachShape(12, check)
	for _, p := range greatShapes() {
		check(p)
	}
}

// counted is the number of a text, which is written without noughts ahead.
func counted(t *testing.T, text string) *big.Int {
	t.Helper()
	n, fine := new(big.Int).SetString(text, 10)
	if !fine || n.String() != text {
		t.Fatalf("no number: %q", text)
	}
	return n
}

func standard(t *testing.T, p []int) *big.Int {
	t.Helper()
	text, err := Standard(p)
	if err != api.OK {
		t.Fatal(p, err)
	}
	return counted(t, text)
}

func fillings(t *testing.T, p []int, most int) *big.Int {
	t.Helper()
	text, err := Fillings(p, most)
	if err != api.OK {
		t.Fatal(p, most, err)
	}
	return counted(t, text)
}

func TestStandard(t *testing.T) {
	for _, c := range []struct {
		p    []int
		want string
	}{
		{nil, "1"},
		{[]int{}, "1"},
		{[]int{1}, "1"},
		{[]int{2, 1}, "2"},
		{[]int{2, 2}, "2"},
		{[]int{3, 2}, "5"},
		{[]int{3, 3, 3}, "42"},
		{[]int{4, 3, 2, 1}, "768"},
		{[]int{5, 4, 3, 2, 1}, "292864"},
		{[]int{40}, "1"},
		{slices.Repeat([]int{1}, 40), "1"},
		{[]int{39, 1}, "39"},
		{[]int{20, 20}, "6564120420"},
		{slices.Repeat([]int{2}, 20), "6564120420"},
		// 39 over 20: which of the letters above 1 stand in the column.
		{append([]int{20}, slices.Repeat([]int{1}, 20)...), "68923264410"},
	} {
		if text, err := Standard(c.p); err != api.OK || text != c.want {
			t.Error(c.p, text, err)
		}
	}
}

// TestStandardIsListed: by a formula as many as one by one.
func TestStandardIsListed(t *testing.T) {
	eachShape(10, func(p []int) {
		list, err := fill.All(p)
		if err != api.OK {
			t.Fatal(p, err)
		}
		if text, err := Standard(p); err != api.OK || text != strconv.Itoa(len(list)) {
			t.Fatal(p, text, err, len(list))
		}
	})
}

// keyOf tells a shape as the key of a map.
func keyOf(p []int) string {
	var b strings.Builder
	for _, part := range p {
		b.WriteByte(byte(part))
	}
	return b.String()
}

// withoutABox lists what is left of p if one box goes away, whatever the order.
func withoutABox(p []int) [][]int {
	var list [][]int
	for i, part := range p {
		if hasBox(p, i+1, part-1) {
			continue
		}
		q := slices.Clone(p)
		q[i]--
		list = append(list, slices.DeleteFunc(q, func(part int) bool { return part == 0 }))
	}
	return list
}

// TestStandardByTheGreatestLetter: it stands at a corner, and without it the tableau is standard.
func TestStandardByTheGreatestLetter(t *testing.T) {
	counts := map[string]*big.Int{"": big.NewInt(1)}
	eachShape(24, func(p []int) {
		want := counts[keyOf(p)]
		if want == nil {
			want = new(big.Int)
			for _, q := range withoutABox(p) {
				want.Add(want, counts[keyOf(q)])
			}
			counts[keyOf(p)] = want
		}
		if got := standard(t, p); got.Cmp(want) != 0 {
			t.Fatal(p, got, want)
		}
	})
}

func power(base, exponent int) *big.Int {
	return new(big.Int).Exp(big.NewInt(int64(base)), big.NewInt(int64(exponent)), nil)
}

// TestPairsOfTableaux: a permutation is two standard tableaux of one shape,
// a word is a tableau with its letters and a standard one.
func TestPairsOfTableaux(t *testing.T) {
	for _, n := range []int{0, 1, 2, 3, 7, 12, 19, 20, 21, 22, 40} {
		mosts := []int{0, 1, 7, 40, 99}
		permutations := new(big.Int)
		words := make([]*big.Int, len(mosts))
		for k := range words {
			words[k] = new(big.Int)
		}
		for _, p := range shapes(n, n) {
			f := standard(t, p)
			permutations.Add(permutations, new(big.Int).Mul(f, f))
			for k, most := range mosts {
				words[k].Add(words[k], new(big.Int).Mul(f, fillings(t, p, most)))
			}
		}
		if want := new(big.Int).MulRange(1, int64(n)); permutations.Cmp(want) != 0 {
			t.Error(n, permutations, want)
		}
		for k, most := range mosts {
			if want := power(most, n); words[k].Cmp(want) != 0 {
				t.Error(n, most, words[k], want)
			}
		}
	}
}

func TestFillings(t *testing.T) {
	for _, c := range []struct {
		p    []int
		most int
		want string
	}{
		{nil, 0, "1"},
		{nil, 99, "1"},
		{[]int{}, 1, "1"},
		{[]int{1}, 0, "0"},
		{[]int{1}, 1, "1"},
		{[]int{1}, 99, "99"},
		{[]int{2, 1}, 0, "0"},
		{[]int{2, 1}, 1, "0"},
		{[]int{2, 1}, 2, "2"},
		{[]int{2, 1}, 3, "8"},
		{[]int{2, 2}, 3, "6"},
		{[]int{1, 1, 1}, 2, "0"},
		{[]int{1, 1, 1}, 3, "1"},
		{[]int{1, 1, 1}, 4, "4"},
		{[]int{3}, 3, "10"},
		{[]int{3, 2, 1}, 1, "0"},
		{[]int{3, 2, 1}, 3, "8"},
		{[]int{40}, 1, "1"},
		{[]int{40}, 2, "41"},
		{[]int{40}, 0, "0"},
		{[]int{20, 20}, 2, "1"},
		{[]int{20, 20}, 1, "0"},
		{slices.Repeat([]int{1}, 40), 39, "0"},
		{slices.Repeat([]int{1}, 40), 40, "1"},
		{slices.Repeat([]int{1}, 40), 41, "41"},
		{slices.Repeat([]int{1}, 40), 0, "0"},
	} {
		if text, err := Fillings(c.p, c.most); err != api.OK || text != c.want {
			t.Error(c.p, c.most, text, err)
		}
	}
}

// TestOneRowOneColumn: letters with and without repeating.
func TestOneRowOneColumn(t *testing.T) {
	for n := range 41 {
		row, column := []int{n}, slices.Repeat([]int{1}, n)
		if n == 0 {
			row = nil
		}
		for most := range 100 {
			if got, want := fillings(t, column, most), new(big.Int).Binomial(int64(most), int64(n)); got.Cmp(want) != 0 {
				t.Fatal(column, most, got, want)
			}
			want := new(big.Int).Binomial(int64(most+n-1), int64(n))
			if n == 0 {
				want.SetInt64(1)
			}
			if got := fillings(t, row, most); got.Cmp(want) != 0 {
				t.Fatal(row, most, got, want)
			}
		}
	}
}

// TestFillingsAreListed: by a formula as many as one by one, as far as they are listed.
func TestFillingsAreListed(t *testing.T) {
	eachShape(8, func(p []int) {
		for most := range 9 {
			got := fillings(t, p, most)
			list, err := fill.AllOf(p, most)
			switch {
			case err == api.ErrLarge && got.Cmp(big.NewInt(api.MaxList)) > 0:
			case err == api.OK && got.Cmp(big.NewInt(int64(len(list)))) == 0:
			default:
				t.Fatal(p, most, got, len(list), err)
			}
		}
	})
}

// eachWithoutAStrip hands on what is left of p if boxes go away, no two of one column:
// each row keeps at least what the row below it had.
func eachWithoutAStrip(p []int, do func(q []int)) {
	q := slices.Clone(p)
	var from func(i int)
	from = func(i int) {
		if i == len(p) {
			do(q)
			return
		}
		least := 0
		if i+1 < len(p) {
			least = p[i+1]
		}
		for q[i] = least; q[i] <= p[i]; q[i]++ {
			from(i + 1)
		}
	}
	from(0)
}

// TestFillingsByTheGreatestLetter: no two of it stand in one column, and without it the tableau has fewer letters.
func TestFillingsByTheGreatestLetter(t *testing.T) {
	counts := []map[string]*big.Int{{"": big.NewInt(1)}}
	eachShape(9, func(p []int) {
		if len(p) > 0 {
			counts[0][keyOf(p)] = new(big.Int)
		}
	})
	for most := range 100 {
		next := map[string]*big.Int{}
		eachShape(9, func(p []int) {
			if got, want := fillings(t, p, most), counts[most][keyOf(p)]; got.Cmp(want) != 0 {
				t.Fatal(p, most, got, want)
			}
			sum := new(big.Int)
			eachWithoutAStrip(p, func(q []int) {
				key := strings.TrimRight(keyOf(q), "\x00")
				sum.Add(sum, counts[most][key])
			})
			next[keyOf(p)] = sum
		})
		counts = append(counts, next)
	}
}

// byDeterminant counts the tableaux by Jacobi's and Trudi's determinant, whose numbers are those of single rows.
func byDeterminant(p []int, most int) *big.Int {
	m := make([][]*big.Rat, len(p))
	for i, part := range p {
		for j := range p {
			k := part - i + j
			n := new(big.Int)
			if k == 0 {
				n.SetInt64(1)
			}
			if k > 0 {
				n.Binomial(int64(most+k-1), int64(k))
			}
			m[i] = append(m[i], new(big.Rat).SetInt(n))
		}
	}
	return determinant(m).Num()
}

func determinant(m [][]*big.Rat) *big.Rat {
	product := big.NewRat(1, 1)
	for k := range m {
		at := slices.IndexFunc(m[k:], func(row []*big.Rat) bool { return row[k].Sign() != 0 })
		if at < 0 {
			return new(big.Rat)
		}
		if at > 0 {
			m[k], m[k+at] = m[k+at], m[k]
			product.Neg(product)
		}
		product.Mul(product, m[k][k])
		for _, row := range m[k+1:] {
			times := new(big.Rat).Quo(row[k], m[k][k])
			for j := range row {
				row[j] = new(big.Rat).Sub(row[j], new(big.Rat).Mul(times, m[k][j]))
			}
		}
	}
	return product
}

// TestGreatFillings reaches numbers of some fifty digits.
func TestGreatFillings(t *testing.T) {
	longest := 0
	for _, p := range greatShapes() {
		for _, most := range []int{0, 1, 2, 5, 6, 7, 8, 9, 10, 19, 20, 21, 39, 40, 41, 50, 98, 99} {
			got := fillings(t, p, most)
			if want := byDeterminant(p, most); got.Cmp(want) != 0 {
				t.Error(p, most, got, want)
			}
			longest = max(longest, len(got.String()))
		}
	}
	if longest < 45 {
		t.Error("only", longest, "digits")
	}
}

func TestErrorsOfCountsAndHooks(t *testing.T) {
	mosts := []int{0, 1, 99, -1, 100, math.MinInt, math.MaxInt}
	for want, list := range badPartitions() {
		for _, p := range list {
			if rows, err := Hooks(p); rows != nil || err != want {
				t.Error("Hooks", len(p), rows, err, want)
			}
			if text, err := Standard(p); text != "" || err != want {
				t.Error("Standard", len(p), text, err, want)
			}
			for _, most := range mosts {
				if text, err := Fillings(p, most); text != "" || err != want {
					t.Error("Fillings", len(p), most, text, err, want)
				}
			}
		}
	}
	for _, p := range append(greatShapes(), nil, []int{1}, []int{2, 1}) {
		for _, most := range []int{-1, -2, 100, 101, 1 << 32, math.MinInt, math.MaxInt} {
			if text, err := Fillings(p, most); text != "" || err != api.ErrArg {
				t.Error(p, most, text, err)
			}
		}
	}
}
