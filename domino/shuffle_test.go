package domino

import (
	"math"
	"slices"
	"testing"

	"ferrers/api"
)

func aztecOf(t *testing.T, n int) string {
	t.Helper()
	s, err := Aztec(n)
	if err != api.OK {
		t.Fatal(n, err)
	}
	return s
}

func TestAztec(t *testing.T) {
	for n, want := range []string{
		1: "##/##",
		2: ".##./####/####/.##.",
		3: "..##../.####./######/######/.####./..##..",
		4: "...##.../..####../.######./########/########/.######./..####../...##...",
	} {
		if s, err := Aztec(n); n > 0 && (err != api.OK || s != want || Check(s) != api.OK) {
			t.Error(n, s, err)
		}
	}
	for _, n := range []int{0, -1, 5, 6, 8, -4, 1 << 32, 1<<32 + 1, math.MinInt, math.MaxInt} {
		if s, err := Aztec(n); s != "" || err != api.ErrArg {
			t.Error(n, s, err)
		}
	}
}

// TestAztecIsCounted: P37's formula.
func TestAztecIsCounted(t *testing.T) {
	for n := 1; n <= 4; n++ {
		board := aztecOf(t, n)
		if many := countOf(t, board); many != 1<<(n*(n+1)/2) || many != int64(len(tilingsOf(board))) {
			t.Error(n, many)
		}
	}
}

// piece is a domino, by its left or upper half.
type piece struct {
	row, column int
	lying       bool
}

// piecesOf lists the dominoes of a tiling.
func piecesOf(tiling string) []piece {
	var list []piece
	for i, line := range linesOf(tiling) {
		for j, b := range line {
			if b == 'l' || b == 'u' {
				list = append(list, piece{i, j, b == 'l'})
			}
		}
	}
	return list
}

// way tells how many rows and columns the domino of a diamond of order n goes.
func (p piece) way(n int) (down, right int) {
	asOdd := (p.row+p.column)%2 == (n-1)%2
	switch {
	case p.lying && asOdd:
		return -1, 0
	case p.lying:
		return 1, 0
	case asOdd:
		return 0, -1
	}
	return 0, 1
}

// meets tells whether a and b go away: b one right below a, or right of it, and they come together.
func meets(a, b piece, n int) bool {
	if a.lying != b.lying {
		return false
	}
	downA, rightA := a.way(n)
	downB, rightB := b.way(n)
	if a.lying {
		return b.column == a.column && b.row == a.row+1 && downA == 1 && downB == -1
	}
	return b.row == a.row && b.column == a.column+1 && rightA == 1 && rightB == -1
}

// put writes a domino into the rows, on cells that are free.
func put(t *testing.T, lines [][]byte, p piece) {
	t.Helper()
	letters, down, right := "ud", 1, 0
	if p.lying {
		letters, down, right = "lr", 0, 1
	}
	for k := range 2 {
		if lines[p.row+k*down][p.column+k*right] != '#' {
			t.Fatal("no room:", p, textOf(lines))
		}
		lines[p.row+k*down][p.column+k*right] = letters[k]
	}
}

// spreadOut lets the dominoes of a tiling go by P37's words: the next diamond, and how many pairs went away.
func spreadOut(t *testing.T, tiling string, n int) (lines [][]byte, gone int) {
	t.Helper()
	lines = linesOf(aztecOf(t, n+1))
	pieces := piecesOf(tiling)
	for _, p := range pieces {
		if slices.ContainsFunc(pieces, func(q piece) bool { return meets(p, q, n) }) {
			gone++
			continue
		}
		if slices.ContainsFunc(pieces, func(q piece) bool { return meets(q, p, n) }) {
			continue
		}
		down, right := p.way(n)
		put(t, lines, piece{p.row + 1 + down, p.column + 1 + right, p.lying})
	}
	return lines, gone
}

// fillUp covers the blocks as upright says, and answers how many there were; lying, if it says nothing of one.
func fillUp(t *testing.T, lines [][]byte, upright []bool) int {
	t.Helper()
	blocks := 0
	for i, line := range lines {
		for j := range line {
			if line[j] != '#' {
				continue
			}
			if blocks < len(upright) && upright[blocks] {
				put(t, lines, piece{i, j, false})
				put(t, lines, piece{i, j + 1, false})
			} else {
				put(t, lines, piece{i, j, true})
				put(t, lines, piece{i + 1, j, true})
			}
			blocks++
		}
	}
	return blocks
}

// eachChoice hands on all lists of so many.
func eachChoice(many int, do func(upright []bool)) {
	for set := range 1 << many {
		upright := make([]bool, many)
		for k := range upright {
			upright[k] = set>>k&1 == 1
		}
		do(upright)
	}
}

func TestNeeds(t *testing.T) {
	for _, c := range []struct {
		tiling string
		want   int
		err    api.Errno
	}{
		{"lr/lr", 2, api.OK},
		{"uu/dd", 2, api.OK},
		{".lr./lruu/lrdd/.lr.", 3, api.OK},
		{".lr./lrlr/lrlr/.lr.", 3, api.OK},
		{".uu./uddu/duud/.dd.", 3, api.OK},
		{".lr./uuuu/dddd/.lr.", 4, api.OK},
		{".lr./ulru/dlrd/.lr.", 4, api.OK},
		{"lr", 0, api.ErrShape},
		{"l", 0, api.ErrArg},
		{"...lr.../..lrlr../.lrlrlr./lrlrlrlr/lrlrlrlr/.lrlrlr./..lrlr../...lr...", 0, api.ErrLarge},
	} {
		if n, err := Needs(c.tiling); err != c.err || n != c.want {
			t.Error(c, n, err)
		}
	}
}

func TestShuffle(t *testing.T) {
	for _, c := range []struct {
		tiling  string
		upright []bool
		want    string
		err     api.Errno
	}{
		{"lr/lr", []bool{false, false}, ".lr./lrlr/lrlr/.lr.", api.OK},
		{"lr/lr", []bool{false, true}, ".lr./lruu/lrdd/.lr.", api.OK},
		{"lr/lr", []bool{true, false}, ".lr./uulr/ddlr/.lr.", api.OK},
		{"lr/lr", []bool{true, true}, ".lr./uuuu/dddd/.lr.", api.OK},
		{"uu/dd", []bool{false, false}, ".lr./ulru/dlrd/.lr.", api.OK},
		{"uu/dd", []bool{false, true}, ".lr./ulru/duud/.dd.", api.OK},
		{"uu/dd", []bool{true, false}, ".uu./uddu/dlrd/.lr.", api.OK},
		{"uu/dd", []bool{true, true}, ".uu./uddu/duud/.dd.", api.OK},
		{"lr/lr", nil, "", api.ErrShape},
		{"lr/lr", []bool{true}, "", api.ErrShape},
		{"lr/lr", []bool{true, true, true}, "", api.ErrShape},
	} {
		if s, err := Shuffle(c.tiling, c.upright); err != c.err || s != c.want {
			t.Error(c, s, err)
		}
	}
}

// TestShuffleOfAllTilings, with all choices, against P37's words; each tiling of the next diamond comes of it,
// as often as there are ways to lay those that went away.
func TestShuffleOfAllTilings(t *testing.T) {
	for n := 1; n <= 3; n++ {
		came, ways := map[string]int{}, map[string]int{}
		for _, tiling := range tilingsOf(aztecOf(t, n)) {
			lines, gone := spreadOut(t, tiling, n)
			left := textOf(lines)
			many, err := Needs(tiling)
			if blocks := fillUp(t, lines, nil); err != api.OK || many != blocks || many != gone+n+1 {
				t.Fatal(tiling, many, err, blocks, gone)
			}
			eachChoice(many, func(upright []bool) {
				next := linesOf(left)
				fillUp(t, next, upright)
				s, err := Shuffle(tiling, upright)
				if err != api.OK || s != textOf(next) {
					t.Fatal(tiling, upright, s, err, textOf(next))
				}
				if CheckTiling(s) != api.OK || boardOf(s) != aztecOf(t, n+1) {
					t.Fatal(tiling, upright, s)
				}
				came[s]++
				ways[s] = 1 << gone
			})
		}
		if many := countOf(t, aztecOf(t, n+1)); many != int64(len(came)) {
			t.Error(n, many, len(came))
		}
		for s, often := range came {
			if often != ways[s] {
				t.Error(s, often, ways[s])
			}
		}
	}
}

// TestErrorsOfUpright: of each tiling, one too few or too many, or none.
func TestErrorsOfUpright(t *testing.T) {
	for n := 1; n <= 3; n++ {
		for _, tiling := range tilingsOf(aztecOf(t, n)) {
			many, _ := Needs(tiling)
			for _, other := range []int{0, 1, many - 1, many + 1, 2 * many, 1000} {
				if s, err := Shuffle(tiling, make([]bool, other)); other != many && (s != "" || err != api.ErrShape) {
					t.Error(tiling, other, s, err)
				}
			}
		}
	}
}

// refused tells that Needs and Shuffle, whatever upright is, answer that error.
func refused(t *testing.T, tiling string, want api.Errno) {
	t.Helper()
	if n, err := Needs(tiling); n != 0 || err != want {
		t.Error(tiling, n, err, want)
	}
	for _, many := range []int{0, 1, 2, 3, 5, 9, 100} {
		if s, err := Shuffle(tiling, make([]bool, many)); s != "" || err != want {
			t.Error(tiling, many, s, err, want)
		}
	}
}

// TestErrorsOfShuffle, in their order.
func TestErrorsOfShuffle(t *testing.T) {
	for _, s := range badTilings() {
		refused(t, s, api.ErrArg)
	}
	for _, s := range tilingsOf(aztecOf(t, 4)) {
		refused(t, s, api.ErrLarge)
	}
	for _, s := range []string{
		".", "lr", "u/d", "./.", "..", "../..", "lr/..", "../lr", "u./d.", ".u/.d", "lr./lr.", "lr/lr/..", "../lr/lr", ".lr/.lr", "lrlr/lrlr", "lr/lr/lr/lr",
		"..../.lr./.lr./....", "lrlr/lrlr/lrlr/lrlr", ".lr./lrlr/lrlr/....", "..../lrlr/lrlr/.lr.", ".lr./.lr./.lr./.lr.", ".lr./lr.u/lr.d/.lr.", "ulr./dlru/lrud/lrd.",
		".lr../lrlr./lrlr./.lr..", ".lr./lrlr/lrlr/.lr./....", full(6, 3, "lr"), full(8, 4, "lr"), full(8, 8, "."), full(2, 4, "lr"), full(7, 4, "lr"),
		"...lr.../..lrlr../.lrlrlr./lrlrlrlr/lrlrlrlr/.lrlrlr./..lrlr../........", "..lr../.lrlr./lrlrlr/lrlrlr/.lrlr./lrlr..",
	} {
		want := api.ErrShape
		if CheckTiling(s) != api.OK {
			want = api.ErrArg
		}
		refused(t, s, want)
	}
	for _, sides := range [][2]int{{2, 2}, {2, 4}, {4, 2}, {3, 3}, {4, 4}} {
		eachTiling(sides[0], sides[1], func(s string) {
			_, err := Needs(s)
			want := api.ErrShape
			if board := boardOf(s); board == "##/##" || board == ".##./####/####/.##." {
				want = api.OK
			}
			if err != want {
				t.Fatal(s, err, want)
			}
		})
	}
	for _, s := range randomTilings() {
		isDiamond := false
		for n := 1; n <= 4; n++ {
			isDiamond = isDiamond || boardOf(s) == aztecOf(t, n)
		}
		if !isDiamond {
			refused(t, s, api.ErrShape)
		}
	}
}

// TestShuffleOnAndOn: from the least diamond to the greatest one.
func TestShuffleOnAndOn(t *testing.T) {
	for _, standing := range []bool{false, true} {
		s := "lr/lr"
		if standing {
			s = "uu/dd"
		}
		for n := 1; n < 4; n++ {
			many, err := Needs(s)
			if err != api.OK {
				t.Fatal(s, err)
			}
			if s, err = Shuffle(s, slices.Repeat([]bool{standing}, many)); err != api.OK {
				t.Fatal(n, err)
			}
		}
		refused(t, s, api.ErrLarge)
	}
}
