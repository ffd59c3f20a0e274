package wide

import (
	"math/big"
	"slices"
	"strings"
	"testing"
)

func TestQuotient(t *testing.T) {
	for _, c := range []struct {
		over, under []int
		want        string
	}{
		{nil, nil, "1"},
		{[]int{}, []int{1, 1}, "1"},
		{[]int{7}, nil, "7"},
		{[]int{0}, nil, "0"},
		{[]int{0}, []int{5}, "0"},
		{[]int{3, 0, 1000000}, []int{7, 6}, "0"},
		{[]int{1, 2, 3}, []int{3, 1, 1}, "2"},
		{[]int{12}, []int{12}, "1"},
		{[]int{4, 9}, []int{6, 6}, "1"},
		{[]int{2, 2, 2}, []int{4}, "2"},
		{[]int{6, 10, 15}, []int{30}, "30"},
		{[]int{10, 10, 10, 10, 10, 10, 10, 10}, nil, "100000000"},
		{[]int{1000, 1000, 1000}, nil, "1000000000"},
		{[]int{1000000000, 1000000000}, nil, "1000000000000000000"},
		{[]int{1000000001, 1000000001}, nil, "1000000002000000001"},
		{[]int{999999999, 999999999, 999999999}, nil, "999999997000000002999999999"},
		{[]int{1<<32 - 1, 1<<32 - 1, 1<<32 - 1}, nil, "79228162458924105385300197375"},
		{[]int{1<<32 - 1, 1<<32 - 1}, []int{1<<32 - 1, 65537}, "65535"},
		{[]int{1 << 62, 1 << 62}, nil, "21267647932558653966460912964485513216"},
		{[]int{1 << 62, 3}, []int{1 << 61}, "6"},
		{slices.Repeat([]int{1 << 31}, 20), slices.Repeat([]int{1 << 30}, 20), "1048576"},
		{slices.Repeat([]int{1000000000}, 30), nil, "1" + strings.Repeat("0", 270)},
	} {
		over, under := slices.Clone(c.over), slices.Clone(c.under)
		if got := Quotient(over, under); got != c.want {
			t.Error(c.over, c.under, got, c.want)
		}
		if !slices.Equal(over, c.over) || !slices.Equal(under, c.under) {
			t.Error("what was handed in was changed:", c.over, c.under)
		}
	}
}

// product is that of the numbers from first to last.
func product(first, last int) (list []int, whole *big.Int) {
	for n := first; n <= last; n++ {
		list = append(list, n)
	}
	return list, new(big.Int).MulRange(int64(first), int64(last))
}

// TestQuotientOfRuns divides numbers that follow one another by as many from 1 on.
func TestQuotientOfRuns(t *testing.T) {
	for last := range 130 {
		for k := range last + 1 {
			over, above := product(last-k+1, last)
			under, below := product(1, k)
			want := above.Div(above, below).String()
			if got := Quotient(over, under); got != want {
				t.Fatal(last, k, got, want)
			}
			slices.Reverse(over)
			if got := Quotient(over, under); got != want {
				t.Fatal("the other way round", last, k, got, want)
			}
		}
	}
}

// TestQuotientOfFactorials is long enough for many groups of digits, noughts at their fronts included.
func TestQuotientOfFactorials(t *testing.T) {
	for n := range 300 {
		over, want := product(1, n)
		if got := Quotient(over, nil); got != want.String() {
			t.Fatal(n, got, want)
		}
	}
}
