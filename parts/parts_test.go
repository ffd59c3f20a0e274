package parts

import (
	"math"
	"slices"
	"testing"

	"ferrers/api"
)

// badPartitions are lists that are no partitions, with what Check says of them.
func badPartitions() map[api.Errno][][]int {
	long := slices.Repeat([]int{1}, 41)
	return map[api.Errno][][]int{
		api.ErrArg: {
			{0}, {-1}, {1, 2}, {3, 1, 2}, {2, 1, 0}, {2, -1}, {math.MinInt},
			{5, math.MaxInt}, {0, 0}, {41, 0}, {40, 1, 2}, {math.MaxInt, math.MaxInt, 0},
			append(slices.Clone(long), 2),
		},
		api.ErrLarge: {
			{41}, {40, 1}, {20, 20, 1}, long, {math.MaxInt}, {math.MaxInt, math.MaxInt, 2},
			{math.MaxInt, math.MaxInt, math.MaxInt, math.MaxInt}, {1 << 62, 1 << 62, 1 << 62, 1 << 62},
			{math.MaxInt, 1},
		},
	}
}

// upTo lists all partitions of the sizes from 0 to n.
func upTo(t *testing.T, n int) [][]int {
	t.Helper()
	var list [][]int
	for size := range n + 1 {
		some, err := All(size)
		if err != api.OK {
			t.Fatal(size, err)
		}
		list = append(list, some...)
	}
	return list
}

func sizeOf(p []int) int {
	size := 0
	for _, part := range p {
		size += part
	}
	return size
}

func TestCheck(t *testing.T) {
	good := [][]int{nil, {}, {1}, {40}, {39, 1}, {3, 3, 1}, {20, 20}, slices.Repeat([]int{1}, 40)}
	for _, p := range good {
		if err := Check(p); err != api.OK {
			t.Error(p, err)
		}
	}
	for want, list := range badPartitions() {
		for _, p := range list {
			if err := Check(p); err != want {
				t.Error(p, err, want)
			}
		}
	}
}

func TestErrorsOfCheckComeFirst(t *testing.T) {
	for want, list := range badPartitions() {
		for _, p := range list {
			if q, err := Conjugate(p); q != nil || err != want {
				t.Error("Conjugate", p, q, err)
			}
			if arms, legs, err := Frobenius(p); arms != nil || legs != nil || err != want {
				t.Error("Frobenius", p, arms, legs, err)
			}
			if q, err := Merge(p); q != nil || err != want {
				t.Error("Merge", p, q, err)
			}
			if q, err := Split(p); q != nil || err != want {
				t.Error("Split", p, q, err)
			}
			if q, moved, err := Franklin(p); q != nil || moved || err != want {
				t.Error("Franklin", p, q, moved, err)
			}
			for _, other := range [][]int{nil, {3}, {40}} {
				if yes, err := Dominates(p, other); yes || err != want {
					t.Error("Dominates", p, other, yes, err)
				}
				if yes, err := Dominates(other, p); yes || err != want {
					t.Error("Dominates", other, p, yes, err)
				}
			}
		}
	}
}

func TestConjugate(t *testing.T) {
	cases := []struct{ p, want []int }{
		{nil, nil},
		{[]int{}, nil},
		{[]int{1}, []int{1}},
		{[]int{3, 1}, []int{2, 1, 1}},
		{[]int{4, 4, 2}, []int{3, 3, 2, 2}},
		{[]int{40}, slices.Repeat([]int{1}, 40)},
	}
	for _, c := range cases {
		if q, err := Conjugate(c.p); err != api.OK || !slices.Equal(q, c.want) {
			t.Error(c.p, q, err)
		}
	}
	for _, p := range upTo(t, 15) {
		q, err := Conjugate(p)
		if err != api.OK || Check(q) != api.OK {
			t.Fatal(p, q, err)
		}
		for j, part := range q {
			above := 0
			for _, x := range p {
				if x > j {
					above++
				}
			}
			if part != above {
				t.Error(p, q)
			}
		}
		if back, err := Conjugate(q); err != api.OK || !slices.Equal(back, p) {
			t.Error(p, q, back, err)
		}
	}
}

func TestDominates(t *testing.T) {
	cases := []struct {
		a, b []int
		yes  bool
		err  api.Errno
	}{
		{nil, nil, true, api.OK},
		{nil, []int{}, true, api.OK},
		{[]int{3}, []int{2, 1}, true, api.OK},
		{[]int{2, 1}, []int{3}, false, api.OK},
		{[]int{2, 1}, []int{2, 1}, true, api.OK},
		{[]int{3, 1, 1, 1}, []int{2, 2, 2}, false, api.OK},
		{[]int{2, 2, 2}, []int{3, 1, 1, 1}, false, api.OK},
		{[]int{40}, slices.Repeat([]int{1}, 40), true, api.OK},
		{nil, []int{1}, false, api.ErrShape},
		{[]int{1}, nil, false, api.ErrShape},
		{[]int{3, 1}, []int{3}, false, api.ErrShape},
		{[]int{1, 2}, []int{41}, false, api.ErrArg},
		{[]int{41}, []int{1, 2}, false, api.ErrLarge},
		{[]int{41}, []int{3}, false, api.ErrLarge},
		{[]int{3}, []int{0}, false, api.ErrArg},
	}
	for _, c := range cases {
		if yes, err := Dominates(c.a, c.b); yes != c.yes || err != c.err {
			t.Error(c.a, c.b, yes, err)
		}
	}
}

func TestDominatesByItsWords(t *testing.T) {
	first := func(p []int, k int) int { return sizeOf(p[:min(k, len(p))]) }
	list := upTo(t, 9)
	for _, a := range list {
		for _, b := range list {
			want, wantErr := true, api.OK
			for k := range 10 {
				want = want && first(a, k) >= first(b, k)
			}
			if sizeOf(a) != sizeOf(b) {
				want, wantErr = false, api.ErrShape
			}
			if yes, err := Dominates(a, b); yes != want || err != wantErr {
				t.Error(a, b, yes, err)
			}
		}
	}
}

func TestFrobenius(t *testing.T) {
	cases := []struct{ p, arms, legs []int }{
		{nil, nil, nil},
		{[]int{1}, []int{0}, []int{0}},
		{[]int{3, 2}, []int{2, 0}, []int{1, 0}},
		{[]int{4, 4, 2, 1}, []int{3, 2}, []int{3, 1}},
		{[]int{40}, []int{39}, []int{0}},
		{slices.Repeat([]int{1}, 40), []int{0}, []int{39}},
		{[]int{6, 6, 6, 6, 6, 6}, []int{5, 4, 3, 2, 1, 0}, []int{5, 4, 3, 2, 1, 0}},
	}
	for _, c := range cases {
		arms, legs, err := Frobenius(c.p)
		if err != api.OK || !slices.Equal(arms, c.arms) || !slices.Equal(legs, c.legs) {
			t.Error(c.p, arms, legs, err)
		}
		if p, err := FromFrobenius(c.arms, c.legs); err != api.OK || !slices.Equal(p, c.p) {
			t.Error(c.arms, c.legs, p, err)
		}
	}
}

func TestFrobeniusIsTurnedBack(t *testing.T) {
	for _, p := range upTo(t, 20) {
		arms, legs, err := Frobenius(p)
		if err != api.OK || len(arms)+sizeOf(arms)+sizeOf(legs) != sizeOf(p) {
			t.Fatal(p, arms, legs, err)
		}
		if back, err := FromFrobenius(arms, legs); err != api.OK || !slices.Equal(back, p) {
			t.Error(p, arms, legs, back, err)
		}
		q, _ := Conjugate(p)
		if back, err := FromFrobenius(legs, arms); err != api.OK || !slices.Equal(back, q) {
			t.Error(p, legs, arms, back, err)
		}
	}
}

func TestFromFrobeniusOfWrongLists(t *testing.T) {
	falling := func(n int) []int {
		l := make([]int, n)
		for i := range l {
			l[i] = n - 1 - i
		}
		return l
	}
	cases := []struct {
		arms, legs []int
		err        api.Errno
	}{
		{[]int{1}, nil, api.ErrArg},
		{nil, []int{1}, api.ErrArg},
		{[]int{100}, nil, api.ErrArg},
		{[]int{2, 1}, []int{2}, api.ErrArg},
		{[]int{-1}, []int{0}, api.ErrArg},
		{[]int{0}, []int{-1}, api.ErrArg},
		{[]int{1, 1}, []int{1, 0}, api.ErrArg},
		{[]int{1, 0}, []int{0, 0}, api.ErrArg},
		{[]int{0, 1}, []int{1, 0}, api.ErrArg},
		{[]int{1, 0}, []int{0, 1}, api.ErrArg},
		{[]int{100, 0}, []int{1, -1}, api.ErrArg},
		{[]int{math.MaxInt}, []int{math.MinInt}, api.ErrArg},
		{[]int{40}, []int{0}, api.ErrLarge},
		{[]int{0}, []int{40}, api.ErrLarge},
		{[]int{20}, []int{20}, api.ErrLarge},
		{[]int{math.MaxInt}, []int{math.MaxInt}, api.ErrLarge},
		{[]int{math.MaxInt, 1}, []int{math.MaxInt, 1}, api.ErrLarge},
		{[]int{math.MaxInt}, []int{0}, api.ErrLarge},
		{[]int{0}, []int{math.MaxInt}, api.ErrLarge},
		{falling(7), falling(7), api.ErrLarge},
		{falling(41), falling(41), api.ErrLarge},
		{falling(1000), falling(1000), api.ErrLarge},
	}
	for _, c := range cases {
		if p, err := FromFrobenius(c.arms, c.legs); p != nil || err != c.err {
			t.Error(c.arms, c.legs, p, err)
		}
	}
	if p, err := FromFrobenius([]int{20}, []int{19}); err != api.OK || sizeOf(p) != 40 {
		t.Error(p, err)
	}
}
