package rule

import (
	"math"
	"math/big"
	"slices"
	"strconv"
	"testing"

	"ferrers/api"
	"ferrers/hooks"
	"ferrers/parts"
	"ferrers/slides"
)

// badPartitions are lists that are no partitions, with what is said of them.
func badPartitions() map[api.Errno][][]int {
	long := slices.Repeat([]int{1}, 41)
	return map[api.Errno][][]int{
		api.ErrArg: {
			{0}, {-1}, {1, 2}, {3, 1, 2}, {2, 1, 0}, {2, -1}, {math.MinInt},
			{5, math.MaxInt}, {0, 0}, {41, 0}, {16, 0}, {16, 1, 2}, {math.MaxInt, math.MaxInt, 0},
			append(slices.Clone(long), 2), make([]int, 1<<12),
		},
		api.ErrLarge: {
			{41}, {40, 1}, {39, 2}, {20, 20, 1}, long, {math.MaxInt}, {math.MaxInt, math.MaxInt, 2},
			{1 << 62, 1 << 62, 1 << 62, 1 << 62}, slices.Repeat([]int{1}, 1<<12),
		},
	}
}

// wideShapes are partitions, but of more than 16 boxes.
func wideShapes() [][]int {
	return [][]int{{17}, {16, 1}, {9, 8}, {40}, {5, 4, 4, 3, 1}, slices.Repeat([]int{1}, 17), slices.Repeat([]int{1}, 40)}
}

// shapes lists the partitions of n in parts.All's order.
func shapes(n int) [][]int {
	list, err := parts.All(n)
	if err != api.OK {
		panic(err)
	}
	return list
}

// eachShape hands on all shapes of up to n boxes.
func eachShape(n int, do func(p []int)) {
	for m := range n + 1 {
		for _, p := range shapes(m) {
			do(p)
		}
	}
}

// eachPair hands on all two shapes of up to n boxes together.
func eachPair(n int, do func(a, b []int)) {
	eachShape(n, func(a []int) {
		eachShape(n-boxesOf(a), func(b []int) { do(a, b) })
	})
}

func boxesOf(p []int) int {
	n := 0
	for _, part := range p {
		n += part
	}
	return n
}

func turned(t *testing.T, p []int) []int {
	t.Helper()
	q, err := parts.Conjugate(p)
	if err != api.OK {
		t.Fatal(p, err)
	}
	return q
}

func hasBox(p []int, i, j int) bool {
	return i < len(p) && j < p[i]
}

func sameRows(a, b [][]int) bool {
	return slices.EqualFunc(a, b, slices.Equal)
}

func sameFillings(a, b [][][]int) bool {
	return slices.EqualFunc(a, b, sameRows)
}

func sameTerms(a, b []api.Term) bool {
	return slices.EqualFunc(a, b, func(x, y api.Term) bool { return slices.Equal(x.Part, y.Part) && x.N == y.N })
}

func product(t *testing.T, a, b []int) []api.Term {
	t.Helper()
	terms, err := Product(a, b)
	if err != api.OK {
		t.Fatal(a, b, err)
	}
	return terms
}

func TestNumberAndFillings(t *testing.T) {
	for _, c := range []struct {
		a, b, c []int
		want    [][][]int
	}{
		{nil, nil, nil, [][][]int{{}}},
		{[]int{}, []int{}, []int{}, [][][]int{{}}},
		{[]int{1}, nil, []int{1}, [][][]int{{{0}}}},
		{nil, []int{1}, []int{1}, [][][]int{{{1}}}},
		{nil, []int{1}, nil, nil},
		{[]int{1}, nil, nil, nil},
		{nil, nil, []int{1}, nil},
		{[]int{1}, []int{1}, []int{2}, [][][]int{{{0, 1}}}},
		{[]int{1}, []int{1}, []int{1, 1}, [][][]int{{{0}, {1}}}},
		{[]int{1}, []int{1}, []int{1}, nil},
		{[]int{1}, []int{1}, []int{3}, nil},
		{[]int{2}, []int{1}, []int{1, 1, 1}, nil},
		{[]int{1, 1}, []int{1}, []int{3}, nil},
		{[]int{2, 2}, []int{1, 1}, []int{4, 1, 1}, nil},
		{[]int{1}, []int{2}, []int{2, 1}, [][][]int{{{0, 1}, {1}}}},
		{[]int{1}, []int{1, 1}, []int{2, 1}, [][][]int{{{0, 1}, {2}}}},
		{[]int{1}, []int{1, 1}, []int{3}, nil},
		{[]int{1}, []int{2}, []int{1, 1, 1}, nil},
		{nil, []int{3, 2}, []int{3, 2}, [][][]int{{{1, 1, 1}, {2, 2}}}},
		{nil, []int{3, 2}, []int{4, 1}, nil},
		{[]int{3, 2}, nil, []int{3, 2}, [][][]int{{{0, 0, 0}, {0, 0}}}},
		{[]int{3, 2}, nil, []int{4, 1}, nil},
		{[]int{2, 1}, []int{2, 1}, []int{3, 2, 1}, [][][]int{{{0, 0, 1}, {0, 1}, {2}}, {{0, 0, 1}, {0, 2}, {1}}}},
		{[]int{2, 1}, []int{2, 1}, []int{4, 2}, [][][]int{{{0, 0, 1, 1}, {0, 2}}}},
		{[]int{2, 1}, []int{2, 1}, []int{2, 2, 1, 1}, [][][]int{{{0, 0}, {0, 1}, {1}, {2}}}},
		{[]int{2, 1}, []int{3, 2, 1}, []int{4, 3, 2}, [][][]int{
			{{0, 0, 1, 1}, {0, 1, 2}, {2, 3}}, {{0, 0, 1, 1}, {0, 2, 2}, {1, 3}},
		}},
		{[]int{4, 3}, []int{3, 3, 1}, []int{5, 4, 3, 2}, [][][]int{
			{{0, 0, 0, 0, 1}, {0, 0, 0, 1}, {1, 2, 2}, {2, 3}}, {{0, 0, 0, 0, 1}, {0, 0, 0, 2}, {1, 1, 3}, {2, 2}},
		}},
		// The second one has the lesser number than the third one at the first place at which they differ, but not at the last.
		{[]int{3, 2, 1}, []int{4, 3, 1}, []int{5, 4, 3, 2}, [][][]int{
			{{0, 0, 0, 1, 1}, {0, 0, 1, 2}, {0, 1, 2}, {2, 3}}, {{0, 0, 0, 1, 1}, {0, 0, 1, 2}, {0, 1, 3}, {2, 2}},
			{{0, 0, 0, 1, 1}, {0, 0, 1, 2}, {0, 2, 2}, {1, 3}}, {{0, 0, 0, 1, 1}, {0, 0, 2, 2}, {0, 1, 3}, {1, 2}},
		}},
		{[]int{16}, nil, []int{16}, [][][]int{{make([]int, 16)}}},
		{nil, []int{16}, []int{16}, [][][]int{{slices.Repeat([]int{1}, 16)}}},
		{[]int{8}, []int{8}, []int{8, 8}, [][][]int{{make([]int, 8), slices.Repeat([]int{1}, 8)}}},
		{[]int{16}, []int{16}, []int{16}, nil},
	} {
		if list, err := Fillings(c.a, c.b, c.c); err != api.OK || !sameFillings(list, c.want) {
			t.Error(c.a, c.b, c.c, list, err)
		}
		if n, err := Number(c.a, c.b, c.c); err != api.OK || n != len(c.want) {
			t.Error(c.a, c.b, c.c, n, err)
		}
	}
}

// isRight tells by the words of the document whether rows are a right filling.
func isRight(rows [][]int, a, b, c []int) bool {
	if slides.Check(rows) != api.OK || len(rows) != len(c) {
		return false
	}
	var read [18]int
	for i, row := range rows {
		if len(row) != c[i] {
			return false
		}
		for j := len(row) - 1; j >= 0; j-- {
			letter := row[j]
			if hasBox(a, i, j) != (letter == 0) || letter > 16 {
				return false
			}
			if letter == 0 {
				continue
			}
			read[letter]++
			for k := 1; k < 17; k++ {
				if read[k+1] > read[k] {
					return false
				}
			}
		}
	}
	for k := range 17 {
		if want := partOf(b, k); read[k+1] != want {
			return false
		}
	}
	return true
}

func partOf(p []int, k int) int {
	if k < len(p) {
		return p[k]
	}
	return 0
}

// eachWord hands on all words in which letter i stands as often as part i of b says, the lesser ones first.
func eachWord(b []int, do func(word []int)) {
	left := slices.Clone(b)
	word := make([]int, boxesOf(b))
	var from func(k int)
	from = func(k int) {
		if k == len(word) {
			do(word)
			return
		}
		for i := range left {
			if left[i] > 0 {
				left[i]--
				word[k] = i + 1
				from(k + 1)
				left[i]++
			}
		}
	}
	from(0)
}

// byWords lists the right fillings by trying all words, row by row.
func byWords(a, b, c []int) [][][]int {
	if boxesOf(a)+boxesOf(b) != boxesOf(c) {
		return nil
	}
	for i, part := range a {
		if part > partOf(c, i) {
			return nil
		}
	}
	var list [][][]int
	eachWord(b, func(word []int) {
		var rows [][]int
		k := 0
		for i, part := range c {
			holes := partOf(a, i)
			row := append(make([]int, holes), word[k:k+part-holes]...)
			k += part - holes
			rows = append(rows, row)
		}
		if isRight(rows, a, b, c) {
			list = append(list, rows)
		}
	})
	return list
}

// TestFillingsByWords: all of them, in their order, and no others; also where the boxes do not fit.
func TestFillingsByWords(t *testing.T) {
	check := func(a, b, c []int) {
		want := byWords(a, b, c)
		if list, err := Fillings(a, b, c); err != api.OK || !sameFillings(list, want) {
			t.Fatal(a, b, c, list, err, want)
		}
		if n, err := Number(a, b, c); err != api.OK || n != len(want) {
			t.Fatal(a, b, c, n, err, want)
		}
	}
	eachPair(7, func(a, b []int) {
		for _, c := range shapes(boxesOf(a) + boxesOf(b)) {
			check(a, b, c)
		}
	})
	eachPair(4, func(a, b []int) {
		eachShape(6, func(c []int) { check(a, b, c) })
	})
	for _, b := range [][]int{{3, 2, 1}, {2, 2, 1, 1}, {4, 2}, {3, 3, 1}} {
		for _, a := range [][]int{{3, 2, 1}, {4, 2, 1}, {3, 3, 2, 1}, {5, 2, 2}, {1, 1, 1}} {
			for _, c := range shapes(boxesOf(a) + boxesOf(b)) {
				check(a, b, c)
			}
		}
	}
}

// greatFillings are shapes of 16 boxes that have many right fillings.
func greatFillings() [][3][]int {
	return [][3][]int{
		{{4, 3, 2, 1}, {3, 2, 1}, {5, 4, 3, 2, 1, 1}},
		{{4, 3, 2, 1}, {3, 2, 1}, {6, 4, 3, 2, 1}},
		{{4, 3, 1}, {4, 3, 1}, {6, 5, 3, 1, 1}},
		{{4, 2, 1, 1}, {4, 3, 1}, {6, 4, 3, 2, 1}},
		{{3, 2, 1, 1}, {4, 3, 2}, {5, 4, 3, 2, 1, 1}},
		{{3, 2, 1}, {4, 3, 2, 1}, {5, 4, 3, 2, 1, 1}},
		{nil, {4, 4, 4, 4}, {4, 4, 4, 4}},
		{{4, 4, 4, 4}, nil, {4, 4, 4, 4}},
		{{3, 2, 1}, {6, 4}, {7, 5, 3, 1}},
	}
}

// topFilling is what a right filling becomes if it is rectified: in each row the row's own letter alone.
func topFilling(b []int) [][]int {
	var rows [][]int
	for i, part := range b {
		rows = append(rows, slices.Repeat([]int{i + 1}, part))
	}
	return rows
}

func compareFillings(a, b [][]int) int {
	return slices.Compare(slices.Concat(a...), slices.Concat(b...))
}

// TestGreatFillings: each is right and ahead of the next one, none is told twice, and the rule of slides holds.
func TestGreatFillings(t *testing.T) {
	great := greatFillings()
	// All of 14 boxes, the fewest of which some would be found in another order from the right ends of the rows on.
	for _, b := range shapes(8) {
		for _, c := range shapes(14) {
			great = append(great, [3][]int{{3, 2, 1}, b, c})
		}
	}
	most := 0
	for i, g := range great {
		list, err := Fillings(g[0], g[1], g[2])
		if err != api.OK || len(list) == 0 && i < len(greatFillings()) {
			t.Fatal(g, list, err)
		}
		if n, err := Number(g[0], g[1], g[2]); err != api.OK || n != len(list) {
			t.Fatal(g, n, err, len(list))
		}
		for k, rows := range list {
			if !isRight(rows, g[0], g[1], g[2]) {
				t.Fatal(g, rows)
			}
			if k > 0 && compareFillings(list[k-1], rows) >= 0 {
				t.Fatal(g, list[k-1], rows)
			}
			if top, err := slides.Rectify(rows); err != api.OK || !sameRows(top, topFilling(g[1])) {
				t.Fatal(g, rows, top, err)
			}
		}
		most = max(most, len(list))
	}
	if most < 8 {
		t.Error("only", most, "fillings of one shape")
	}
}

// eachStandardSkew hands on the skew tableaux of the shape c without a, in which the letters from 1 on stand once each.
func eachStandardSkew(a, c []int, do func(rows [][]int)) {
	rows := make([][]int, len(c))
	for i := range c {
		rows[i] = make([]int, partOf(a, i))
	}
	var put func(letter int)
	put = func(letter int) {
		full := true
		for i, row := range rows {
			if len(row) == c[i] {
				continue
			}
			full = false
			if i == 0 || len(rows[i-1]) > len(row) {
				rows[i] = append(slices.Clone(row), letter)
				put(letter + 1)
				rows[i] = row
			}
		}
		if full {
			do(rows)
		}
	}
	put(1)
}

// TestNumberBySlides: as many skew tableaux are rectified to any one standard tableau of the shape b.
func TestNumberBySlides(t *testing.T) {
	eachPair(7, func(a, b []int) {
		var want [][]int
		next := 1
		for _, part := range b {
			row := make([]int, part)
			for j := range row {
				row[j] = next
				next++
			}
			want = append(want, row)
		}
		for _, c := range shapes(boxesOf(a) + boxesOf(b)) {
			count := 0
			if contains(c, a) {
				eachStandardSkew(a, c, func(rows [][]int) {
					got, err := slides.Rectify(rows)
					if err != api.OK {
						t.Fatal(rows, err)
					}
					if sameRows(got, want) {
						count++
					}
				})
			}
			if n, err := Number(a, b, c); err != api.OK || n != count {
				t.Fatal(a, b, c, n, err, count)
			}
		}
	})
}

func TestProduct(t *testing.T) {
	for _, c := range []struct {
		a, b []int
		want []api.Term
	}{
		{nil, nil, []api.Term{{N: "1"}}},
		{[]int{}, []int{2, 1}, []api.Term{{Part: []int{2, 1}, N: "1"}}},
		{[]int{2, 1}, nil, []api.Term{{Part: []int{2, 1}, N: "1"}}},
		{[]int{1}, []int{2}, []api.Term{{Part: []int{3}, N: "1"}, {Part: []int{2, 1}, N: "1"}}},
		{[]int{2}, []int{2}, []api.Term{{Part: []int{4}, N: "1"}, {Part: []int{3, 1}, N: "1"}, {Part: []int{2, 2}, N: "1"}}},
		{[]int{1, 1}, []int{2}, []api.Term{{Part: []int{3, 1}, N: "1"}, {Part: []int{2, 1, 1}, N: "1"}}},
		{[]int{2, 1}, []int{2, 1}, []api.Term{
			{Part: []int{4, 2}, N: "1"}, {Part: []int{4, 1, 1}, N: "1"}, {Part: []int{3, 3}, N: "1"}, {Part: []int{3, 2, 1}, N: "2"},
			{Part: []int{3, 1, 1, 1}, N: "1"}, {Part: []int{2, 2, 2}, N: "1"}, {Part: []int{2, 2, 1, 1}, N: "1"},
		}},
		{[]int{15}, []int{1}, []api.Term{{Part: []int{16}, N: "1"}, {Part: []int{15, 1}, N: "1"}}},
		{[]int{4, 4, 4, 4}, nil, []api.Term{{Part: []int{4, 4, 4, 4}, N: "1"}}},
	} {
		if terms, err := Product(c.a, c.b); err != api.OK || !sameTerms(terms, c.want) {
			t.Error(c.a, c.b, terms, err)
		}
	}
}

// TestProductIsNumber: each shape whose number is not 0, in parts.All's order.
func TestProductIsNumber(t *testing.T) {
	eachPair(10, func(a, b []int) {
		var want []api.Term
		for _, c := range shapes(boxesOf(a) + boxesOf(b)) {
			n, err := Number(a, b, c)
			if err != api.OK {
				t.Fatal(a, b, c, err)
			}
			if n > 0 {
				want = append(want, api.Term{Part: c, N: strconv.Itoa(n)})
			}
		}
		if got := product(t, a, b); !sameTerms(got, want) {
			t.Fatal(a, b, got, want)
		}
	})
}

// TestOrderMakesNoDifference: two shapes may change places, and rows and columns may.
func TestOrderMakesNoDifference(t *testing.T) {
	eachPair(11, func(a, b []int) {
		terms := product(t, a, b)
		if back := product(t, b, a); !sameTerms(terms, back) {
			t.Fatal(a, b, terms, back)
		}
		over := product(t, turned(t, a), turned(t, b))
		for i := range over {
			over[i].Part = turned(t, over[i].Part)
		}
		slices.SortFunc(over, func(x, y api.Term) int { return slices.Compare(y.Part, x.Part) })
		if !sameTerms(terms, over) {
			t.Fatal(a, b, terms, over)
		}
	})
}

// sum holds how often each shape is there, by its parts written as bytes.
type sum map[string]int

func keyOf(p []int) string {
	key := make([]byte, len(p))
	for i, part := range p {
		key[i] = byte(part)
	}
	return string(key)
}

func partsOf(key string) []int {
	var p []int
	for i := range len(key) {
		p = append(p, int(key[i]))
	}
	return p
}

// add takes the terms in, each so often.
func (s sum) add(t *testing.T, terms []api.Term, times int) {
	t.Helper()
	for _, term := range terms {
		n, err := strconv.Atoi(term.N)
		if err != nil || n < 1 || strconv.Itoa(n) != term.N {
			t.Fatalf("no number: %q", term.N)
		}
		s[keyOf(term.Part)] += times * n
		if s[keyOf(term.Part)] == 0 {
			delete(s, keyOf(term.Part))
		}
	}
}

// times is the product of the sum and one shape.
func (s sum) times(t *testing.T, p []int) sum {
	t.Helper()
	got := sum{}
	for key, n := range s {
		got.add(t, product(t, partsOf(key), p), n)
	}
	return got
}

func sameSums(a, b sum) bool {
	for key, n := range a {
		if b[key] != n {
			return false
		}
	}
	return len(a) == len(b)
}

// TestRoadMakesNoDifference: of three shapes the first two or the last two may be multiplied first.
func TestRoadMakesNoDifference(t *testing.T) {
	eachPair(7, func(a, b []int) {
		eachShape(9-boxesOf(a)-boxesOf(b), func(c []int) {
			left := sum{keyOf(a): 1}.times(t, b).times(t, c)
			right := sum{keyOf(b): 1}.times(t, c).times(t, a)
			if !sameSums(left, right) {
				t.Fatal(a, b, c, left, right)
			}
		})
	})
}

func counted(t *testing.T, text string, err api.Errno) *big.Int {
	t.Helper()
	n, fine := new(big.Int).SetString(text, 10)
	if err != api.OK || !fine {
		t.Fatal(text, err)
	}
	return n
}

func standard(t *testing.T, p []int) *big.Int {
	t.Helper()
	text, err := hooks.Standard(p)
	return counted(t, text, err)
}

func fillings(t *testing.T, p []int, most int) *big.Int {
	t.Helper()
	text, err := hooks.Fillings(p, most)
	return counted(t, text, err)
}

// weighed is what all terms are together, if each shape is worth so much.
func weighed(t *testing.T, terms []api.Term, worth func(p []int) *big.Int) *big.Int {
	t.Helper()
	all := new(big.Int)
	for _, term := range terms {
		n := counted(t, term.N, api.OK)
		all.Add(all, n.Mul(n, worth(term.Part)))
	}
	return all
}

// somePairs are two shapes of 16 boxes together, among them those with the greatest numbers.
func somePairs() [][2][]int {
	return [][2][]int{
		{{4, 3, 2, 1}, {3, 2, 1}}, {{3, 2, 1}, {4, 3, 2, 1}}, {{4, 3, 1}, {4, 3, 1}}, {{3, 2, 2, 1}, {4, 3, 1}}, {{4, 2, 1, 1}, {4, 2, 1, 1}},
		{{8}, {8}}, {{8}, slices.Repeat([]int{1}, 8)}, {slices.Repeat([]int{1}, 8), slices.Repeat([]int{1}, 8)}, {{16}, nil}, {nil, {5, 4, 3, 2, 1, 1}},
		{{15}, {1}}, {{1}, {5, 4, 3, 2, 1}}, {{4, 4}, {2, 2, 2, 2}}, {{3, 3, 2}, {3, 3, 2}}, {{5, 3, 1}, {4, 2, 1}}, {{2, 2, 2, 1, 1}, {3, 2, 2, 1}},
	}
}

// TestProductsAreCounted: standard tableaux of a and of b are put together with any letters for the first,
// tableaux of each whatever stands in the other.
func TestProductsAreCounted(t *testing.T) {
	check := func(a, b []int) {
		terms := product(t, a, b)
		n, m := boxesOf(a), boxesOf(b)
		want := new(big.Int).Binomial(int64(n+m), int64(n))
		want.Mul(want, standard(t, a)).Mul(want, standard(t, b))
		if got := weighed(t, terms, func(p []int) *big.Int { return standard(t, p) }); got.Cmp(want) != 0 {
			t.Fatal(a, b, got, want)
		}
		for _, most := range []int{1, 2, 3, 5, 16} {
			want := new(big.Int).Mul(fillings(t, a, most), fillings(t, b, most))
			if got := weighed(t, terms, func(p []int) *big.Int { return fillings(t, p, most) }); got.Cmp(want) != 0 {
				t.Fatal(a, b, most, got, want)
			}
		}
	}
	eachPair(9, check)
	for _, pair := range somePairs() {
		check(pair[0], pair[1])
	}
}

// withRow is the sum with a row of k put on each shape, no two boxes in one column; made here of the boxes themselves.
func (s sum) withRow(k int) sum {
	got := sum{}
	for key, n := range s {
		p := partsOf(key)
		for _, c := range byBoxes(p, k, false) {
			got[keyOf(c)] += n
		}
	}
	return got
}

// TestProductByRows: a shape is a determinant whose entries are single rows (JACOBI, TRUDI).
func TestProductByRows(t *testing.T) {
	for _, pair := range somePairs() {
		a, b := pair[0], pair[1]
		if len(a) > 4 {
			continue
		}
		want := sum{}
		var expand func(i, left int, taken []int, sign int, soFar sum)
		expand = func(i, left int, taken []int, sign int, soFar sum) {
			if i == len(a) {
				for key, n := range soFar {
					want[key] += sign * n
				}
				return
			}
			for j := range a {
				k := a[i] - i + j
				// A row longer than what is left comes with one below 0, and that is no row.
				if k < 0 || k > left || slices.Contains(taken, j) {
					continue
				}
				turn := sign
				for _, before := range taken {
					if before > j {
						turn = -turn
					}
				}
				expand(i+1, left-k, append(slices.Clone(taken), j), turn, soFar.withRow(k))
			}
		}
		expand(0, boxesOf(a), nil, 1, sum{keyOf(b): 1})
		for key, n := range want {
			if n == 0 {
				delete(want, key)
			}
		}
		got := sum{}
		got.add(t, product(t, a, b), 1)
		if !sameSums(got, want) {
			t.Error(a, b, got, want)
		}
	}
}

// three lists, and what is said of them.
type three struct {
	a, b, c []int
	want    api.Errno
}

// badThrees are three lists each, of which one is wrong at least. The first that is no partition
// is told of, and ahead of any that has too many boxes.
func badThrees() []three {
	var list []three
	fine := [][]int{nil, {1}, {16}, {4, 3, 2, 1}, slices.Repeat([]int{1}, 16)}
	bads := badPartitions()
	for want, these := range bads {
		for i, p := range these {
			f := fine[i%len(fine)]
			list = append(list, three{p, f, f, want}, three{f, p, f, want}, three{f, f, p, want})
			for _, others := range bads {
				q := others[i%len(others)]
				list = append(list, three{p, q, q, want}, three{f, p, q, want}, three{p, f, q, want})
			}
			for _, w := range wideShapes() {
				list = append(list, three{w, w, p, want}, three{w, p, f, want}, three{p, w, w, want})
			}
		}
	}
	for i, w := range wideShapes() {
		f := fine[i%len(fine)]
		list = append(list, three{w, f, f, api.ErrLarge}, three{f, w, f, api.ErrLarge}, three{f, f, w, api.ErrLarge}, three{w, w, w, api.ErrLarge})
		list = append(list, three{w, nil, w, api.ErrLarge}, three{nil, w, w, api.ErrLarge})
	}
	return list
}

func TestErrorsOfFillings(t *testing.T) {
	for _, c := range badThrees() {
		if n, err := Number(c.a, c.b, c.c); n != 0 || err != c.want {
			t.Error("Number", brief(c.a), brief(c.b), brief(c.c), n, err, c.want)
		}
		if l, err := Fillings(c.a, c.b, c.c); l != nil || err != c.want {
			t.Error("Fillings", brief(c.a), brief(c.b), brief(c.c), l, err, c.want)
		}
	}
}

func TestErrorsOfProducts(t *testing.T) {
	check := func(a, b []int, want api.Errno) {
		if terms, err := Product(a, b); terms != nil || err != want {
			t.Error(brief(a), brief(b), terms, err, want)
		}
	}
	fine := [][]int{nil, {1}, {16}, {4, 3, 2, 1}}
	bads := badPartitions()
	for want, these := range bads {
		for i, p := range these {
			check(p, p, want)
			for _, others := range bads {
				check(p, others[i%len(others)], want)
			}
			for _, q := range append(wideShapes(), fine...) {
				check(p, q, want)
				check(q, p, want)
			}
		}
	}
	for _, w := range wideShapes() {
		for _, q := range append(wideShapes(), fine...) {
			check(w, q, api.ErrLarge)
			check(q, w, api.ErrLarge)
		}
	}
}

// brief cuts a list that would be too long to be read.
func brief(p []int) []int {
	return p[:min(len(p), 12)]
}

// TestProductsOfTooManyBoxes: each has few enough, but not both together.
func TestProductsOfTooManyBoxes(t *testing.T) {
	for _, pair := range [][2][]int{
		{{9}, {8}}, {{16}, {1}}, {{1}, {16}}, {{16}, {16}}, {{4, 3, 2, 1}, {3, 2, 1, 1}}, {slices.Repeat([]int{1}, 16), {1}}, {{17}, nil}, {nil, {17}},
	} {
		if terms, err := Product(pair[0], pair[1]); terms != nil || err != api.ErrLarge {
			t.Error(pair, terms, err)
		}
	}
	// Number and Fillings of such shapes are asked: no shape of 16 boxes holds them.
	if n, err := Number([]int{9}, []int{8}, []int{16}); n != 0 || err != api.OK {
		t.Error(n, err)
	}
	if list, err := Fillings([]int{9}, []int{8}, []int{16}); len(list) != 0 || err != api.OK {
		t.Error(list, err)
	}
}
