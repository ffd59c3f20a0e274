package chars

import (
	"math"
	"slices"
	"testing"

	"ferrers/api"
	"ferrers/hooks"
	"ferrers/parts"
)

// badPartitions are lists that are no partitions, with what is said of them.
func badPartitions() map[api.Errno][][]int {
	long := slices.Repeat([]int{1}, 41)
	return map[api.Errno][][]int{
		api.ErrArg: {
			{0}, {-1}, {1, 2}, {3, 1, 2}, {2, 1, 0}, {2, -1}, {math.MinInt},
			{5, math.MaxInt}, {0, 0}, {41, 0}, {13, 0}, {13, 1, 2}, {math.MaxInt, math.MaxInt, 0},
			append(slices.Clone(long), 2), make([]int, 1<<12),
		},
		api.ErrLarge: {
			{41}, {40, 1}, {39, 2}, {20, 20, 1}, long, {math.MaxInt}, {math.MaxInt, math.MaxInt, 2},
			{1 << 62, 1 << 62, 1 << 62, 1 << 62}, slices.Repeat([]int{1}, 1<<12),
		},
	}
}

// shapes lists the partitions of n in parts.All's order.
func shapes(n int) [][]int {
	list, err := parts.All(n)
	if err != api.OK {
		panic(err)
	}
	return list
}

// eachShape hands on all shapes of up to n boxes.
func eachShape(n int, do func(p []int)) {
	for m := range n + 1 {
		for _, p := range shapes(m) {
			do(p)
		}
	}
}

// fortyBoxes are some shapes of as many boxes as there may be.
func fortyBoxes() [][]int {
	return [][]int{
		{40}, slices.Repeat([]int{1}, 40), {39, 1}, {20, 20}, slices.Repeat([]int{2}, 20), {8, 8, 8, 8, 8},
		slices.Repeat([]int{5}, 8), {8, 7, 6, 5, 4, 4, 3, 2, 1}, {9, 8, 6, 6, 4, 3, 2, 1, 1}, {7, 7, 6, 5, 5, 3, 3, 2, 2},
		append([]int{20}, slices.Repeat([]int{1}, 20)...), {10, 10, 10, 10}, {12, 9, 7, 5, 3, 2, 1, 1}, {6, 6, 6, 6, 6, 5, 5},
	}
}

func boxesOf(p []int) int {
	n := 0
	for _, part := range p {
		n += part
	}
	return n
}

func hasBox(p []int, i, j int) bool {
	return i < len(p) && j < p[i]
}

func sameRows(a, b [][]int) bool {
	return slices.EqualFunc(a, b, slices.Equal)
}

func sameStrips(a, b []api.Strip) bool {
	return slices.EqualFunc(a, b, func(x, y api.Strip) bool {
		return slices.Equal(x.Part, y.Part) && x.Height == y.Height
	})
}

func TestStrips(t *testing.T) {
	for _, c := range []struct {
		p    []int
		k    int
		want []api.Strip
	}{
		{nil, 1, nil},
		{[]int{}, 5, nil},
		{[]int{1}, 1, []api.Strip{{Part: nil}}},
		{[]int{1}, 2, nil},
		{[]int{3}, 1, []api.Strip{{Part: []int{2}}}},
		{[]int{3}, 3, []api.Strip{{Part: []int{}}}},
		{[]int{3}, 4, nil},
		{[]int{1, 1, 1}, 1, []api.Strip{{Part: []int{1, 1}}}},
		{[]int{1, 1, 1}, 2, []api.Strip{{Part: []int{1}, Height: 1}}},
		{[]int{1, 1, 1}, 3, []api.Strip{{Height: 2}}},
		{[]int{2, 1}, 1, []api.Strip{{Part: []int{2}}, {Part: []int{1, 1}}}},
		{[]int{2, 1}, 2, nil},
		{[]int{2, 1}, 3, []api.Strip{{Height: 1}}},
		{[]int{2, 2}, 1, []api.Strip{{Part: []int{2, 1}}}},
		{[]int{2, 2}, 2, []api.Strip{{Part: []int{2}}, {Part: []int{1, 1}, Height: 1}}},
		{[]int{2, 2}, 3, []api.Strip{{Part: []int{1}, Height: 1}}},
		{[]int{2, 2}, 4, nil},
		{[]int{3, 1, 1}, 5, []api.Strip{{Height: 2}}},
		{[]int{3, 2, 1}, 1, []api.Strip{{Part: []int{3, 2}}, {Part: []int{3, 1, 1}}, {Part: []int{2, 2, 1}}}},
		{[]int{3, 2, 1}, 3, []api.Strip{{Part: []int{3}, Height: 1}, {Part: []int{1, 1, 1}, Height: 1}}},
		{[]int{3, 2, 1}, 5, []api.Strip{{Part: []int{1}, Height: 2}}},
		{[]int{5, 4, 2, 2, 1}, 3, []api.Strip{{Part: []int{5, 4, 2}, Height: 1}, {Part: []int{3, 3, 2, 2, 1}, Height: 1}}},
		{[]int{40}, 40, []api.Strip{{Height: 0}}},
		{[]int{40}, 39, []api.Strip{{Part: []int{1}}}},
		{slices.Repeat([]int{1}, 40), 40, []api.Strip{{Height: 39}}},
		{[]int{40}, math.MaxInt, nil},
		{slices.Repeat([]int{1}, 40), math.MaxInt, nil},
	} {
		if list, err := Strips(c.p, c.k); err != api.OK || !sameStrips(list, c.want) {
			t.Error(c.p, c.k, list, err)
		}
	}
}

// taken lists the boxes of p that q has not; false, if q has one that p has not.
func taken(p, q []int) (map[[2]int]int, bool) {
	boxes := make(map[[2]int]int)
	for i := range max(len(p), len(q)) {
		for j := range 40 {
			if hasBox(q, i, j) && !hasBox(p, i, j) {
				return nil, false
			}
			if hasBox(p, i, j) && !hasBox(q, i, j) {
				boxes[[2]int{i, j}] = 1
			}
		}
	}
	return boxes, true
}

// hangTogether tells whether each box can be reached from any other one by steps over sides.
func hangTogether(boxes map[[2]int]int) bool {
	reached := make(map[[2]int]int)
	var reach func(i, j int)
	reach = func(i, j int) {
		box := [2]int{i, j}
		if boxes[box] == 0 || reached[box] > 0 {
			return
		}
		reached[box] = 1
		reach(i-1, j)
		reach(i+1, j)
		reach(i, j-1)
		reach(i, j+1)
	}
	for box := range boxes {
		reach(box[0], box[1])
		break
	}
	return len(reached) == len(boxes)
}

// heightOf tells by the words of P27 whether p without q is a strip of k boxes, and how high it is.
func heightOf(p, q []int, k int) (int, bool) {
	boxes, fine := taken(p, q)
	if !fine || len(boxes) != k || !hangTogether(boxes) {
		return 0, false
	}
	rows := make(map[int]int)
	for box := range boxes {
		i, j := box[0], box[1]
		if boxes[[2]int{i + 1, j}]+boxes[[2]int{i, j + 1}]+boxes[[2]int{i + 1, j + 1}] == 3 {
			return 0, false
		}
		rows[i]++
	}
	return len(rows) - 1, true
}

// among lists the strips of k boxes in p by trying all partitions that could be left, in their order.
func among(all [][]int, p []int, k int) []api.Strip {
	var list []api.Strip
	for _, q := range all {
		if height, fine := heightOf(p, q, k); fine {
			list = append(list, api.Strip{Part: q, Height: height})
		}
	}
	return list
}

// TestStripsAmongAllShapes: of each shape and each length, and of lengths that no strip has.
func TestStripsAmongAllShapes(t *testing.T) {
	eachShape(12, func(p []int) {
		n := boxesOf(p)
		for k := 1; k <= n+3; k++ {
			var want []api.Strip
			if k <= n {
				want = among(shapes(n-k), p, k)
			}
			if list, err := Strips(p, k); err != api.OK || !sameStrips(list, want) {
				t.Fatal(p, k, list, err, want)
			}
		}
	})
}

// below lists the partitions that have k boxes of p less, in parts.All's order.
func below(t *testing.T, p []int, k int) [][]int {
	t.Helper()
	list := [][]int{p}
	for range k {
		var next [][]int
		for _, q := range list {
			less, err := hooks.Below(q)
			if err != api.OK {
				t.Fatal(q, err)
			}
			next = append(next, less...)
		}
		slices.SortFunc(next, func(a, b []int) int { return slices.Compare(b, a) })
		list = slices.CompactFunc(next, slices.Equal)
	}
	return list
}

// TestStripsOfFortyBoxes: short ones and long ones, each by all that could be left.
func TestStripsOfFortyBoxes(t *testing.T) {
	for _, p := range fortyBoxes() {
		for k := 1; k <= 40; k++ {
			var all [][]int
			switch {
			case k <= 7:
				all = below(t, p, k)
			case k >= 25:
				all = shapes(40 - k)
			default:
				continue
			}
			want := among(all, p, k)
			if list, err := Strips(p, k); err != api.OK || !sameStrips(list, want) {
				t.Fatal(p, k, list, err, want)
			}
		}
	}
}

// TestStripsAreAsManyAsHooks: of each length, whatever the shape.
func TestStripsAreAsManyAsHooks(t *testing.T) {
	check := func(p []int) {
		rows, err := hooks.Hooks(p)
		if err != api.OK {
			t.Fatal(p, err)
		}
		var counts [42]int
		for _, row := range rows {
			for _, hook := range row {
				counts[hook]++
			}
		}
		for k := 1; k < len(counts); k++ {
			list, err := Strips(p, k)
			if err != api.OK || len(list) != counts[k] {
				t.Fatal(p, k, list, err)
			}
			for i, strip := range list {
				if parts.Check(strip.Part) != api.OK || boxesOf(strip.Part) != boxesOf(p)-k {
					t.Fatal(p, k, strip)
				}
				if height, fine := heightOf(p, strip.Part, k); !fine || height != strip.Height {
					t.Fatal(p, k, strip)
				}
				if i > 0 && slices.Compare(list[i-1].Part, strip.Part) <= 0 {
					t.Fatal(p, k, list)
				}
			}
		}
	}
	eachShape(12, check)
	for _, p := range fortyBoxes() {
		check(p)
	}
}

func TestErrorsOfStrips(t *testing.T) {
	check := func(p []int, k int, want api.Errno) {
		if list, err := Strips(p, k); list != nil || err != want {
			t.Error(len(p), k, list, err, want)
		}
	}
	wrong := []int{0, -1, -3, math.MinInt, math.MinInt + 1}
	for want, list := range badPartitions() {
		for _, p := range list {
			// A list that is no partition is told of ahead of a length that is none.
			for _, k := range append([]int{1, 3, 41, math.MaxInt}, wrong...) {
				check(p, k, want)
			}
		}
	}
	for _, p := range append(fortyBoxes(), nil, []int{}, []int{1}, []int{3, 2, 1}) {
		for _, k := range wrong {
			check(p, k, api.ErrArg)
		}
	}
}
