package parts

import (
	"slices"
	"testing"

	"ferrers/api"
)

func allOdd(p []int) bool {
	return !slices.ContainsFunc(p, func(part int) bool { return part%2 == 0 })
}

func twoSame(p []int) bool {
	return len(slices.Compact(slices.Clone(p))) < len(p)
}

func TestMergeAndSplit(t *testing.T) {
	cases := []struct{ odd, distinct []int }{
		{nil, nil},
		{[]int{1}, []int{1}},
		{[]int{1, 1}, []int{2}},
		{[]int{3, 3, 1}, []int{6, 1}},
		{[]int{1, 1, 1, 1, 1, 1, 1}, []int{4, 2, 1}},
		{[]int{5, 5, 5, 3, 1, 1}, []int{10, 5, 3, 2}},
		{slices.Repeat([]int{1}, 40), []int{32, 8}},
		{slices.Repeat([]int{5}, 8), []int{40}},
		{[]int{39, 1}, []int{39, 1}},
		{[]int{19, 19, 1, 1}, []int{38, 2}},
	}
	for _, c := range cases {
		if p, err := Merge(c.odd); err != api.OK || !slices.Equal(p, c.distinct) {
			t.Error("Merge", c.odd, p, err)
		}
		if p, err := Split(c.distinct); err != api.OK || !slices.Equal(p, c.odd) {
			t.Error("Split", c.distinct, p, err)
		}
	}
}

func TestEulersTheorem(t *testing.T) {
	for _, p := range upTo(t, 20) {
		merged, err := Merge(p)
		switch {
		case !allOdd(p):
			if merged != nil || err != api.ErrShape {
				t.Error("Merge", p, merged, err)
			}
		case err != api.OK || twoSame(merged) || sizeOf(merged) != sizeOf(p) || Check(merged) != api.OK:
			t.Error("Merge", p, merged, err)
		default:
			if back, err := Split(merged); err != api.OK || !slices.Equal(back, p) {
				t.Error("Split", merged, back, err)
			}
		}
		split, err := Split(p)
		switch {
		case twoSame(p):
			if split != nil || err != api.ErrShape {
				t.Error("Split", p, split, err)
			}
		case err != api.OK || !allOdd(split) || sizeOf(split) != sizeOf(p) || Check(split) != api.OK:
			t.Error("Split", p, split, err)
		default:
			if back, err := Merge(split); err != api.OK || !slices.Equal(back, p) {
				t.Error("Merge", split, back, err)
			}
		}
	}
}

func TestFranklin(t *testing.T) {
	cases := []struct {
		p, want []int
		moved   bool
	}{
		{nil, nil, false},
		{[]int{}, nil, false},
		{[]int{1}, []int{1}, false},
		{[]int{2}, []int{2}, false},
		{[]int{3}, []int{2, 1}, true},
		{[]int{40}, []int{39, 1}, true},
		{[]int{2, 1}, []int{3}, true},
		{[]int{3, 2}, []int{3, 2}, false},
		{[]int{4, 3}, []int{4, 3}, false},
		{[]int{5, 4}, []int{4, 3, 2}, true},
		{[]int{4, 2}, []int{3, 2, 1}, true},
		{[]int{4, 3, 2}, []int{5, 4}, true},
		{[]int{3, 2, 1}, []int{4, 2}, true},
		{[]int{5, 4, 3}, []int{5, 4, 3}, false},
		{[]int{6, 5, 4}, []int{6, 5, 4}, false},
		{[]int{7, 6, 5}, []int{6, 5, 4, 3}, true},
		{[]int{7, 6, 4, 3, 2}, []int{8, 7, 4, 3}, true},
		{[]int{8, 7, 4, 3}, []int{7, 6, 4, 3, 2}, true},
		{[]int{10, 9, 8, 7, 6}, []int{10, 9, 8, 7, 6}, false},
		{[]int{9, 8, 7, 6, 5}, []int{9, 8, 7, 6, 5}, false},
	}
	for _, c := range cases {
		p, moved, err := Franklin(c.p)
		if err != api.OK || moved != c.moved || !slices.Equal(p, c.want) {
			t.Error(c.p, p, moved, err)
		}
	}
}

func TestFranklinIsTurnedBack(t *testing.T) {
	stays := 0
	for _, p := range upTo(t, 20) {
		q, moved, err := Franklin(p)
		if twoSame(p) {
			if q != nil || moved || err != api.ErrShape {
				t.Error(p, q, moved, err)
			}
			continue
		}
		if err != api.OK || Check(q) != api.OK || twoSame(q) || sizeOf(q) != sizeOf(p) {
			t.Error(p, q, moved, err)
			continue
		}
		if !moved {
			stays++
			if !slices.Equal(p, q) {
				t.Error(p, q)
			}
			continue
		}
		if (len(p)-len(q))%2 == 0 {
			t.Error(p, q)
		}
		if back, again, err := Franklin(q); err != api.OK || !again || !slices.Equal(back, p) {
			t.Error(p, q, back, again, err)
		}
	}
	// One stays for each pentagonal number: 0, 1, 2, 5, 7, 12, 15.
	if stays != 7 {
		t.Error(stays)
	}
}
