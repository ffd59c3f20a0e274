package fill

import (
	"math"
	"math/big"
	"slices"
	"testing"

	"ferrers/api"
	"ferrers/parts"
)

func sameLists(a, b [][][]int) bool {
	return slices.EqualFunc(a, b, sameRows)
}

func TestAll(t *testing.T) {
	for _, c := range []struct {
		p    []int
		want [][][]int
	}{
		{nil, [][][]int{{}}},
		{[]int{}, [][][]int{{}}},
		{[]int{1}, [][][]int{{{1}}}},
		{[]int{3}, [][][]int{{{1, 2, 3}}}},
		{[]int{1, 1, 1}, [][][]int{{{1}, {2}, {3}}}},
		{[]int{2, 1}, [][][]int{{{1, 2}, {3}}, {{1, 3}, {2}}}},
		{[]int{2, 2}, [][][]int{{{1, 2}, {3, 4}}, {{1, 3}, {2, 4}}}},
		{[]int{2, 1, 1}, [][][]int{{{1, 2}, {3}, {4}}, {{1, 3}, {2}, {4}}, {{1, 4}, {2}, {3}}}},
		{[]int{3, 2}, [][][]int{
			{{1, 2, 3}, {4, 5}}, {{1, 2, 4}, {3, 5}}, {{1, 2, 5}, {3, 4}}, {{1, 3, 4}, {2, 5}}, {{1, 3, 5}, {2, 4}},
		}},
		{[]int{3, 1, 1}, [][][]int{
			{{1, 2, 3}, {4}, {5}}, {{1, 2, 4}, {3}, {5}}, {{1, 2, 5}, {3}, {4}},
			{{1, 3, 4}, {2}, {5}}, {{1, 3, 5}, {2}, {4}}, {{1, 4, 5}, {2}, {3}},
		}},
		{[]int{40}, [][][]int{{rowFrom(1, 40)}}},
		{slices.Repeat([]int{1}, 40), [][][]int{columnFrom(1, 40)}},
	} {
		if list, err := All(c.p); err != api.OK || !sameLists(list, c.want) {
			t.Error(c.p, list, err)
		}
	}
}

// arrangements lists the standard ones among all ways to put each letter once, row by row.
func arrangements(p []int) [][][]int {
	n := 0
	rows := make([][]int, len(p))
	for i, part := range p {
		rows[i] = make([]int, part)
		n += part
	}
	used := make([]bool, n+1)
	var list [][][]int
	var from func(i, j int)
	from = func(i, j int) {
		if i == len(p) {
			if isTableau(rows) {
				list = append(list, copied(rows))
			}
			return
		}
		if j == p[i] {
			from(i+1, 0)
			return
		}
		for letter := 1; letter <= n; letter++ {
			if !used[letter] {
				used[letter] = true
				rows[i][j] = letter
				from(i, j+1)
				used[letter] = false
			}
		}
	}
	from(0, 0)
	return list
}

// TestAllOneByOne holds the lists against all ways to put the letters, in their order.
func TestAllOneByOne(t *testing.T) {
	for n := range 8 {
		for _, p := range shapes(n, n) {
			if list, err := All(p); err != api.OK || !sameLists(list, arrangements(p)) {
				t.Error(p, list, err)
			}
		}
	}
}

// hookProduct is what the hooks of p's boxes make.
func hookProduct(p []int) *big.Int {
	product := big.NewInt(1)
	for i, part := range p {
		for j := range part {
			hook := part - j
			for _, below := range p[i+1:] {
				if below > j {
					hook++
				}
			}
			product.Mul(product, big.NewInt(int64(hook)))
		}
	}
	return product
}

// howManyStandard counts by the formula of the hooks.
func howManyStandard(p []int) *big.Int {
	n := 0
	for _, part := range p {
		n += part
	}
	count := new(big.Int).MulRange(1, int64(n))
	return count.Div(count, hookProduct(p))
}

// howMany counts the tableaux with letters up to most likewise.
func howMany(p []int, most int) *big.Int {
	count := big.NewInt(1)
	for i, part := range p {
		for j := range part {
			count.Mul(count, big.NewInt(int64(most+j-i)))
		}
	}
	return count.Div(count, hookProduct(p))
}

// checkList: as many as are counted, all of them tableaux of the shape, each ahead of the next.
func checkList(t *testing.T, p []int, list [][][]int, err api.Errno, count *big.Int) {
	t.Helper()
	if count.Cmp(big.NewInt(2000)) > 0 {
		if list != nil || err != api.ErrLarge {
			t.Error(p, len(list), err, count)
		}
		return
	}
	if err != api.OK || int64(len(list)) != count.Int64() {
		t.Error(p, len(list), err, count)
		return
	}
	for k, a := range list {
		shape, err := Shape(a)
		if err != api.OK || !slices.Equal(shape, p) {
			t.Fatal(p, a, err)
		}
		if k > 0 && slices.Compare(slices.Concat(list[k-1]...), slices.Concat(a...)) >= 0 {
			t.Fatal(p, list[k-1], a)
		}
	}
}

func checkAll(t *testing.T, p []int) {
	t.Helper()
	list, err := All(p)
	checkList(t, p, list, err, howManyStandard(p))
	for _, a := range list {
		if yes, err := IsStandard(a); err != api.OK || !yes {
			t.Fatal(p, a, err)
		}
	}
}

func checkAllOf(t *testing.T, p []int, most int) {
	t.Helper()
	list, err := AllOf(p, most)
	checkList(t, p, list, err, howMany(p, most))
	for _, a := range list {
		if slices.ContainsFunc(slices.Concat(a...), func(letter int) bool { return letter > most }) {
			t.Fatal(p, most, a)
		}
	}
}

// TestCountedAndListed: by a formula as many as one by one.
func TestCountedAndListed(t *testing.T) {
	for n := range 12 {
		for _, p := range shapes(n, n) {
			checkAll(t, p)
		}
	}
	for n := range 7 {
		for _, p := range shapes(n, n) {
			for most := range 7 {
				checkAllOf(t, p, most)
			}
			checkAllOf(t, p, 99)
		}
	}
}

// greatShapes have up to 40 boxes; of many of them there are far too many tableaux.
func greatShapes() [][]int {
	return [][]int{
		{40}, slices.Repeat([]int{1}, 40), {39, 1}, {38, 2}, {38, 1, 1}, {37, 3}, {20, 20}, {20, 1, 1, 1}, {10, 10, 10, 10},
		slices.Repeat([]int{2}, 20), slices.Repeat([]int{4}, 10), {8, 7, 6, 5, 4, 3, 2, 1}, {9, 8, 7, 6, 5, 4, 1}, {6, 6, 6, 6, 6, 6, 4},
		append([]int{2}, slices.Repeat([]int{1}, 38)...), append([]int{2, 2}, slices.Repeat([]int{1}, 36)...), append([]int{21}, slices.Repeat([]int{1}, 19)...),
	}
}

// TestListsOfGreatShapes: each answers soon, be it that there are too many.
func TestListsOfGreatShapes(t *testing.T) {
	for _, p := range greatShapes() {
		checkAll(t, p)
		for _, most := range []int{0, 1, 2, 3, len(p) - 1, len(p), len(p) + 1, 40, 98, 99} {
			checkAllOf(t, p, most)
		}
	}
}

// TestMaxList: 2000 are listed, 2001 are not.
func TestMaxList(t *testing.T) {
	for _, c := range []struct {
		p     []int
		count int
	}{
		{[]int{22, 3}, 2000}, {slices.Concat([]int{2, 2, 2}, slices.Repeat([]int{1}, 19)), 2000}, {[]int{7, 3, 2}, 1925}, {[]int{17, 2, 1}, 1920},
		{[]int{10, 3, 1}, 2002}, {[]int{9, 6}, 2002}, {[]int{22, 1, 1, 1}, 2024}, {[]int{6, 5, 4}, 30030},
	} {
		if howManyStandard(c.p).Int64() != int64(c.count) {
			t.Error(c.p, "is no such edge")
		}
		checkAll(t, c.p)
	}
	for _, c := range []struct {
		p           []int
		most, count int
	}{
		{[]int{6, 2, 2, 1}, 5, 2000}, {[]int{7, 3, 3, 2, 1}, 5, 2000}, {[]int{6, 5, 4, 4}, 5, 2000}, {[]int{36, 2}, 3, 1995}, {[]int{2}, 62, 1953},
		{[]int{27, 5}, 3, 2001}, {[]int{28, 6, 1}, 3, 2001}, {[]int{5}, 10, 2002}, {[]int{1, 1, 1, 1, 1}, 14, 2002}, {[]int{2}, 63, 2016},
	} {
		if howMany(c.p, c.most).Int64() != int64(c.count) {
			t.Error(c.p, c.most, "is no such edge")
		}
		checkAllOf(t, c.p, c.most)
	}
}

func TestAllOf(t *testing.T) {
	for _, c := range []struct {
		p    []int
		most int
		want [][][]int
	}{
		{nil, 0, [][][]int{{}}},
		{[]int{}, 0, [][][]int{{}}},
		{nil, 99, [][][]int{{}}},
		{[]int{1}, 0, nil},
		{[]int{1}, 1, [][][]int{{{1}}}},
		{[]int{1}, 3, [][][]int{{{1}}, {{2}}, {{3}}}},
		{[]int{40}, 0, nil},
		{[]int{40}, 1, [][][]int{{slices.Repeat([]int{1}, 40)}}},
		{[]int{1, 1}, 1, nil},
		{[]int{2}, 2, [][][]int{{{1, 1}}, {{1, 2}}, {{2, 2}}}},
		{[]int{1, 1}, 3, [][][]int{{{1}, {2}}, {{1}, {3}}, {{2}, {3}}}},
		{[]int{2, 1}, 2, [][][]int{{{1, 1}, {2}}, {{1, 2}, {2}}}},
		{[]int{2, 1}, 3, [][][]int{
			{{1, 1}, {2}}, {{1, 1}, {3}}, {{1, 2}, {2}}, {{1, 2}, {3}}, {{1, 3}, {2}}, {{1, 3}, {3}}, {{2, 2}, {3}}, {{2, 3}, {3}},
		}},
		{[]int{2, 2}, 3, [][][]int{
			{{1, 1}, {2, 2}}, {{1, 1}, {2, 3}}, {{1, 1}, {3, 3}}, {{1, 2}, {2, 3}}, {{1, 2}, {3, 3}}, {{2, 2}, {3, 3}},
		}},
		{slices.Repeat([]int{1}, 40), 39, nil},
		{slices.Repeat([]int{1}, 40), 40, [][][]int{columnFrom(1, 40)}},
	} {
		if list, err := AllOf(c.p, c.most); err != api.OK || !sameLists(list, c.want) {
			t.Error(c.p, c.most, list, err)
		}
	}
}

// TestAllOfOneByOne holds the lists against all fillings, in their order.
func TestAllOfOneByOne(t *testing.T) {
	for n := range 6 {
		for _, p := range shapes(n, n) {
			for most := range 6 {
				var want [][][]int
				eachFilling(p, 1, most, func(a [][]int) {
					if isTableau(a) {
						want = append(want, copied(a))
					}
				})
				if list, err := AllOf(p, most); err != api.OK || !sameLists(list, want) {
					t.Error(p, most, list, err)
				}
			}
		}
	}
}

// TestAllOfGreatestLetters: 99 may be asked for.
func TestAllOfGreatestLetters(t *testing.T) {
	list, err := AllOf([]int{1}, 99)
	if err != api.OK || len(list) != 99 {
		t.Fatal(len(list), err)
	}
	for k, a := range list {
		if !sameRows(a, [][]int{{k + 1}}) {
			t.Error(k, a)
		}
	}
}

// badShapes are lists that are no partitions, or too great ones.
func badShapes() [][]int {
	return [][]int{
		{0}, {-1}, {1, 2}, {2, 0}, {2, 1, 0}, {3, 1, 2}, {41}, {20, 21}, {20, 20, 1}, slices.Repeat([]int{1}, 41), {100, 0}, {40, 1},
		{math.MaxInt}, {math.MinInt}, {math.MaxInt, math.MaxInt}, {math.MaxInt, 1}, {math.MaxInt, 0}, make([]int, 1000), slices.Repeat([]int{1}, 1<<16),
	}
}

func TestListErrors(t *testing.T) {
	for _, p := range badShapes() {
		want := parts.Check(p)
		if want == api.OK {
			t.Fatal(p)
		}
		if list, err := All(p); list != nil || err != want {
			t.Error("All", err, want)
		}
		// What is wrong of the shape is told ahead of what is wrong of the letters.
		for _, most := range []int{0, 1, 99, -1, 100, math.MinInt, math.MaxInt} {
			if list, err := AllOf(p, most); list != nil || err != want {
				t.Error("AllOf", most, err, want)
			}
		}
	}
	// And that ahead of how many there are.
	for _, p := range append(greatShapes(), nil, []int{1}, []int{2, 1}) {
		for _, most := range []int{-1, 100, -99, 1000, math.MinInt, math.MaxInt} {
			if list, err := AllOf(p, most); list != nil || err != api.ErrArg {
				t.Error("AllOf", p, most, err)
			}
		}
	}
}
