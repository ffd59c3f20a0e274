package slides

import (
	"math"
	"math/rand"
	"slices"
	"testing"

	"ferrers/api"
	"ferrers/fill"
	"ferrers/insert"
)

// badTableaux are rows that are no tableaux, with what fill.Check says of them.
func badTableaux() map[api.Errno][][][]int {
	return map[api.Errno][][][]int{
		api.ErrArg: {
			{{}}, {nil}, {{1}, {}}, {{}, {1}}, {{0}}, {{0, 1}}, {{0, 1}, {1}}, {{1}, {0}}, {{-1}}, {{100}}, {{math.MinInt}}, {{math.MaxInt}},
			{{2, 1}}, {{1}, {1}}, {{2}, {1}}, {{1, 3}, {2, 2}}, {{1}, {2, 3}}, {{1, 1}, {2}, {3, 3}}, {rowFrom(0, 40)}, {make([]int, 40)},
			columnFrom(0, 40), make([][]int, 1000),
		},
		api.ErrLarge: {
			{rowFrom(1, 41)}, columnFrom(1, 41), {rowFrom(1, 20), rowFrom(21, 20), {41}}, {make([]int, 1<<16)}, {{1}, rowFrom(2, 40)}, {{}, rowFrom(1, 41)},
		},
	}
}

// eachStandard hands on all standard tableaux of up to n boxes.
func eachStandard(n int, do func(t [][]int)) {
	eachShape(n, func(p []int) {
		list, err := fill.All(p)
		if err != api.OK {
			panic(err)
		}
		for _, t := range list {
			do(t)
		}
	})
}

// rectangle is the standard tableau of so many rows of one length, row by row.
func rectangle(high, wide int) [][]int {
	t := make([][]int, high)
	for i := range t {
		t[i] = rowFrom(1+i*wide, wide)
	}
	return t
}

// greatStandards are some of 39 and 40 boxes.
func greatStandards() [][][]int {
	list := [][][]int{{rowFrom(1, 40)}, columnFrom(1, 40), {rowFrom(1, 39)}, columnFrom(1, 39), rectangle(2, 20), rectangle(20, 2), rectangle(5, 8), rectangle(13, 3)}
	source := rand.New(rand.NewSource(6))
	for k := range 40 {
		w := source.Perm(39 + k%2)
		for i := range w {
			w[i]++
		}
		p, q, _ := insert.Make(w)
		list = append(list, p, q)
	}
	return list
}

// TestTurnsOfOneShape: all five of the shape 3 2, by hand.
func TestTurnsOfOneShape(t *testing.T) {
	a, b, c := [][]int{{1, 2, 3}, {4, 5}}, [][]int{{1, 2, 4}, {3, 5}}, [][]int{{1, 2, 5}, {3, 4}}
	d, e := [][]int{{1, 3, 4}, {2, 5}}, [][]int{{1, 3, 5}, {2, 4}}
	for _, l := range []struct {
		t, promoted, evacuated [][]int
	}{
		{a, c, c}, {b, e, e}, {c, d, a}, {d, a, d}, {e, b, b},
	} {
		checkTurns(t, l.t, l.promoted, l.evacuated)
	}
}

func TestTurnExamples(t *testing.T) {
	for _, l := range []struct {
		t, promoted, evacuated [][]int
	}{
		{nil, nil, nil},
		{[][]int{}, nil, nil},
		{[][]int{{1}}, [][]int{{1}}, [][]int{{1}}},
		{[][]int{{1, 2}}, [][]int{{1, 2}}, [][]int{{1, 2}}},
		{[][]int{{1}, {2}}, [][]int{{1}, {2}}, [][]int{{1}, {2}}},
		{[][]int{{1, 2}, {3}}, [][]int{{1, 3}, {2}}, [][]int{{1, 3}, {2}}},
		{[][]int{{1, 3}, {2}}, [][]int{{1, 2}, {3}}, [][]int{{1, 2}, {3}}},
		{[][]int{{1, 2}, {3, 4}}, [][]int{{1, 3}, {2, 4}}, [][]int{{1, 2}, {3, 4}}},
		{[][]int{{1, 3}, {2, 4}}, [][]int{{1, 2}, {3, 4}}, [][]int{{1, 3}, {2, 4}}},
		{[][]int{{1, 2, 3}, {4}}, [][]int{{1, 2, 4}, {3}}, [][]int{{1, 3, 4}, {2}}},
		{[][]int{rowFrom(1, 40)}, [][]int{rowFrom(1, 40)}, [][]int{rowFrom(1, 40)}},
		{columnFrom(1, 40), columnFrom(1, 40), columnFrom(1, 40)},
		{[][]int{rowFrom(1, 39), {40}}, [][]int{append(rowFrom(1, 38), 40), {39}}, [][]int{append([]int{1}, rowFrom(3, 38)...), {2}}},
	} {
		checkTurns(t, l.t, l.promoted, l.evacuated)
	}
}

// checkTurns holds the three turns of one tableau against what is known of them.
func checkTurns(t *testing.T, a, promoted, evacuated [][]int) {
	t.Helper()
	if got, err := Promote(a); err != api.OK || !sameRows(got, promoted) {
		t.Fatal("Promote", a, got, err, promoted)
	}
	if got, err := Demote(promoted); err != api.OK || !sameRows(got, a) {
		t.Fatal("Demote", promoted, got, err, a)
	}
	if got, err := Evacuate(a); err != api.OK || !sameRows(got, evacuated) {
		t.Fatal("Evacuate", a, got, err, evacuated)
	}
}

// promoteByWords and evacuateByWords are P19, as the document tells it.
func promoteByWords(t [][]int) [][]int {
	n := len(slices.Concat(t...))
	if n == 0 {
		return nil
	}
	rest, row := slideByWords(cut(t, []int{1}), api.Point{})
	for i := range rest {
		for j := range rest[i] {
			rest[i][j]--
		}
	}
	if row == len(rest) {
		rest = append(rest, nil)
	}
	rest[row] = append(rest[row], n)
	return rest
}

func evacuateByWords(t [][]int) [][]int {
	answer, rest := cloneRows(t), t
	for n := len(slices.Concat(t...)); n > 0; n-- {
		var row int
		rest, row = slideByWords(cut(rest, []int{1}), api.Point{})
		left := 0
		if row < len(rest) {
			left = len(rest[row])
		}
		answer[row][left] = n
	}
	return answer
}

// checkAllTurns holds a standard tableau's turns against the words, and against each other.
func checkAllTurns(t *testing.T, a [][]int) {
	t.Helper()
	checkTurns(t, a, promoteByWords(a), evacuateByWords(a))
	promoted, _ := Promote(a)
	demoted, err := Demote(a)
	if back, _ := Promote(demoted); err != api.OK || !sameRows(back, a) {
		t.Fatal(a, demoted, err, back)
	}
	evacuated, _ := Evacuate(a)
	if back, err := Evacuate(evacuated); err != api.OK || !sameRows(back, a) {
		t.Fatal(a, evacuated, back, err)
	}
	other, _ := Evacuate(promoted)
	if same, _ := Demote(evacuated); !sameRows(other, same) {
		t.Fatal(a, other, same)
	}
	shape, _ := fill.Shape(a)
	for _, b := range [][][]int{promoted, demoted, evacuated} {
		standard, err := fill.IsStandard(b)
		if now, _ := fill.Shape(b); err != api.OK || !standard || !slices.Equal(now, shape) {
			t.Fatal(a, b)
		}
	}
}

func TestTurns(t *testing.T) {
	eachStandard(8, func(a [][]int) { checkAllTurns(t, a) })
	for _, a := range greatStandards() {
		checkAllTurns(t, a)
	}
}

// TestEvacuateByInsertion: a word read backwards, with each letter k as n + 1 - k, has the evacuated P.
func TestEvacuateByInsertion(t *testing.T) {
	check := func(a [][]int) {
		w, _ := fill.Word(a)
		slices.Reverse(w)
		for i := range w {
			w[i] = len(w) + 1 - w[i]
		}
		want, _, _ := insert.Make(w)
		if got, err := Evacuate(a); err != api.OK || !sameRows(got, want) {
			t.Fatal(a, got, err, want)
		}
	}
	eachStandard(9, check)
	for _, a := range greatStandards() {
		check(a)
	}
}

// swapped lets k and k + 1 change places, if neither is next to the other.
func swapped(t [][]int, k int) [][]int {
	at := map[int]api.Point{}
	for box, number := range boxes(t) {
		at[number] = box
	}
	a, b := at[k], at[k+1]
	t = cloneRows(t)
	if a.X != b.X && a.Y != b.Y {
		t[a.Y][a.X], t[b.Y][b.X] = k+1, k
	}
	return t
}

// TestTurnsBySwaps: promoting is swapping 1 and 2, then 2 and 3, and so on; evacuating is doing
// so up to n, then up to n - 1, and so on.
func TestTurnsBySwaps(t *testing.T) {
	check := func(a [][]int) {
		n := len(slices.Concat(a...))
		promoted := a
		for k := 1; k < n; k++ {
			promoted = swapped(promoted, k)
		}
		evacuated := a
		for most := n; most > 1; most-- {
			for k := 1; k < most; k++ {
				evacuated = swapped(evacuated, k)
			}
		}
		checkTurns(t, a, promoted, evacuated)
	}
	eachStandard(7, check)
	for _, a := range greatStandards()[:30] {
		check(a)
	}
}

// promotedOften promotes a tableau so many times.
func promotedOften(t [][]int, times int) [][]int {
	for range times {
		t, _ = Promote(t)
	}
	return t
}

// TestRectanglesComeBack: where all rows are of one length, promoted as often as there are boxes.
func TestRectanglesComeBack(t *testing.T) {
	for high := range 10 {
		for wide := range 10 {
			if high*wide == 0 || high*wide > 10 {
				continue
			}
			list, err := fill.All(slices.Repeat([]int{wide}, high))
			if err != api.OK {
				t.Fatal(high, wide, err)
			}
			for _, a := range list {
				if b := promotedOften(a, high*wide); !sameRows(a, b) {
					t.Fatal(a, b)
				}
			}
		}
	}
	for _, sides := range []api.Pair{{A: 5, B: 8}, {A: 8, B: 5}, {A: 2, B: 20}, {A: 20, B: 2}, {A: 6, B: 6}, {A: 4, B: 10}, {A: 40, B: 1}, {A: 1, B: 40}} {
		a := rectangle(sides.A, sides.B)
		if b := promotedOften(a, sides.A*sides.B); !sameRows(a, b) {
			t.Error(a, b)
		}
	}
}

// TestStairsAreTurned: where each row is shorter by one, promoted as often as there are boxes,
// rows and columns have changed places.
func TestStairsAreTurned(t *testing.T) {
	for _, stairs := range [][]int{{1}, {2, 1}, {3, 2, 1}, {4, 3, 2, 1}} {
		list, err := fill.All(stairs)
		if err != api.OK {
			t.Fatal(stairs, err)
		}
		for _, a := range list {
			want, _ := fill.Turned(a)
			if b := promotedOften(a, len(slices.Concat(a...))); !sameRows(b, want) {
				t.Fatal(a, b, want)
			}
		}
	}
}

func TestTurnErrors(t *testing.T) {
	check := func(a [][]int, want api.Errno) {
		t.Helper()
		for name, do := range map[string]func([][]int) ([][]int, api.Errno){"Evacuate": Evacuate, "Promote": Promote, "Demote": Demote} {
			if b, err := do(a); b != nil || err != want {
				t.Error(name, brief(a), b, err, want)
			}
		}
	}
	for want, list := range badTableaux() {
		for _, a := range list {
			check(a, want)
		}
	}
	for _, a := range [][][]int{
		{{2}}, {{99}}, {{1, 1}}, {{1, 3}}, {{1}, {3}}, {{2}, {3}}, {{1, 1}, {2}}, {{1, 2}, {2}}, {{1, 2}, {4}}, {{1, 2, 2}, {3}},
		{slices.Repeat([]int{1}, 40)}, {rowFrom(2, 40)}, {append(rowFrom(1, 39), 41)}, {append(rowFrom(1, 39), 39)}, columnFrom(60, 40),
	} {
		check(a, api.ErrShape)
	}
}
