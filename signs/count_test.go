package signs

import (
	"math"
	"math/big"
	"slices"
	"strconv"
	"testing"

	"ferrers/api"
)

func TestCount(t *testing.T) {
	for n, want := range []string{
		1: "1", 2: "2", 3: "7", 4: "42", 5: "429", 6: "7436", 7: "218348", 8: "10850216", 9: "911835460", 10: "129534272700",
		11: "31095744852375", 12: "12611311859677500", 13: "8639383518297652500", 14: "9995541355448167482000",
	} {
		if text, err := Count(n); n > 0 && (err != api.OK || text != want) {
			t.Error(n, text, err)
		}
	}
	for _, n := range []int{0, -1, 31, 32, 100, -30, 1 << 32, 1<<32 + 1, math.MinInt, math.MaxInt} {
		if text, err := Count(n); text != "" || err != api.ErrArg {
			t.Error(n, text, err)
		}
	}
}

// TestCountByFactorials: P38's formula, as it stands there.
func TestCountByFactorials(t *testing.T) {
	for n := int64(1); n <= 30; n++ {
		over, under := big.NewInt(1), big.NewInt(1)
		for k := range n {
			over.Mul(over, new(big.Int).MulRange(1, 3*k+1))
			under.Mul(under, new(big.Int).MulRange(1, n+k))
		}
		want, rest := new(big.Int).QuoRem(over, under, new(big.Int))
		if text, err := Count(int(n)); err != api.OK || text != want.String() || rest.Sign() != 0 {
			t.Error(n, text, err, want)
		}
	}
}

// TestCountIsListed: one by one.
func TestCountIsListed(t *testing.T) {
	for n := 1; n <= 7; n++ {
		many := 0
		eachMatrix(n, func([][]int) { many++ })
		if text, err := Count(n); err != api.OK || text != strconv.Itoa(many) {
			t.Error(n, text, err, many)
		}
	}
}

func TestAll(t *testing.T) {
	for n, want := range [][][][]int{
		1: {{{1}}},
		2: {{{0, 1}, {1, 0}}, {{1, 0}, {0, 1}}},
		3: {
			{{0, 0, 1}, {0, 1, 0}, {1, 0, 0}},
			{{0, 0, 1}, {1, 0, 0}, {0, 1, 0}},
			{{0, 1, 0}, {0, 0, 1}, {1, 0, 0}},
			{{0, 1, 0}, {1, -1, 1}, {0, 1, 0}},
			{{0, 1, 0}, {1, 0, 0}, {0, 0, 1}},
			{{1, 0, 0}, {0, 0, 1}, {0, 1, 0}},
			{{1, 0, 0}, {0, 1, 0}, {0, 0, 1}},
		},
	} {
		if list, err := All(n); n > 0 && (err != api.OK || !slices.EqualFunc(list, want, sameRows)) {
			t.Error(n, list, err)
		}
	}
	for _, n := range []int{0, -1, 6, 7, 8, 30, 1 << 32, 1<<32 + 1, math.MinInt, math.MaxInt} {
		if list, err := All(n); list != nil || err != api.ErrArg {
			t.Error(n, list, err)
		}
	}
}

// TestAllIsInOrder: all of them, each once, the lesser number first.
func TestAllIsInOrder(t *testing.T) {
	for n := 1; n <= 5; n++ {
		list, err := All(n)
		if err != api.OK || !slices.EqualFunc(list, matrices(n), sameRows) {
			t.Fatal(n, len(list), err)
		}
		for k, m := range list {
			if !isMatrix(m) || len(m) != n {
				t.Fatal(m)
			}
			if k > 0 && slices.Compare(slices.Concat(list[k-1]...), slices.Concat(m...)) >= 0 {
				t.Fatal(list[k-1], m)
			}
		}
	}
}
