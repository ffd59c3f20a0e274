package parts

import (
	"math"
	"math/big"
	"slices"
	"strconv"
	"testing"

	"ferrers/api"
)

func TestCount(t *testing.T) {
	cases := map[int]string{
		0:   "1",
		1:   "1",
		2:   "2",
		5:   "7",
		40:  "37338",
		41:  "44583",
		100: "190569292",
		200: "3972999029388",
		400: "6727090051741041926",
	}
	for n, want := range cases {
		if s, err := Count(n); err != api.OK || s != want {
			t.Error(n, s, err)
		}
	}
}

// TestCountByPentagons goes another road: the recurrence that Franklin's moves prove.
func TestCountByPentagons(t *testing.T) {
	counts := []*big.Int{big.NewInt(1)}
	for n := 1; n <= 400; n++ {
		sum := new(big.Int)
		for k := 1; k*(3*k-1)/2 <= n; k++ {
			for _, pentagon := range []int{k * (3*k - 1) / 2, k * (3*k + 1) / 2} {
				if pentagon > n {
					continue
				}
				if k%2 == 1 {
					sum.Add(sum, counts[n-pentagon])
				} else {
					sum.Sub(sum, counts[n-pentagon])
				}
			}
		}
		counts = append(counts, sum)
	}
	for n, want := range counts {
		if s, err := Count(n); err != api.OK || s != want.String() {
			t.Error(n, s, err, want)
		}
	}
}

func TestCountOfWrongNumbers(t *testing.T) {
	for _, n := range []int{-1, 401, math.MinInt, math.MaxInt} {
		if s, err := Count(n); s != "" || err != api.ErrArg {
			t.Error(n, s, err)
		}
	}
}

func TestAll(t *testing.T) {
	cases := map[int][][]int{
		0: {{}},
		1: {{1}},
		4: {{4}, {3, 1}, {2, 2}, {2, 1, 1}, {1, 1, 1, 1}},
		6: {
			{6}, {5, 1}, {4, 2}, {4, 1, 1}, {3, 3}, {3, 2, 1}, {3, 1, 1, 1},
			{2, 2, 2}, {2, 2, 1, 1}, {2, 1, 1, 1, 1}, {1, 1, 1, 1, 1, 1},
		},
	}
	for n, want := range cases {
		if list, err := All(n); err != api.OK || !slices.EqualFunc(list, want, slices.Equal) {
			t.Error(n, list, err)
		}
	}
}

func TestWhatIsCountedIsListed(t *testing.T) {
	for n := range 21 {
		list, err := All(n)
		if err != api.OK {
			t.Fatal(n, err)
		}
		if s, _ := Count(n); s != strconv.Itoa(len(list)) {
			t.Error(n, s, len(list))
		}
		for i, p := range list {
			if Check(p) != api.OK || sizeOf(p) != n {
				t.Error(n, p)
			}
			if i > 0 && slices.Compare(list[i-1], p) <= 0 {
				t.Error(n, list[i-1], p)
			}
		}
	}
}

func TestAllOfWrongNumbers(t *testing.T) {
	for _, n := range []int{-1, 21, 40, math.MinInt, math.MaxInt} {
		if list, err := All(n); list != nil || err != api.ErrArg {
			t.Error(n, list, err)
		}
	}
}
