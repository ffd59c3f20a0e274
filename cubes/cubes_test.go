package cubes

import (
	"math"
	"math/rand"
	"slices"
	"testing"

	"ferrers/api"
)

func sameRows(a, b [][]int) bool {
	return slices.EqualFunc(a, b, slices.Equal[[]int])
}

func cloneRows(p [][]int) [][]int {
	q := slices.Clone(p)
	for i, row := range q {
		q[i] = slices.Clone(row)
	}
	return q
}

// full is the pile with the same number at all places.
func full(rows, columns, n int) [][]int {
	var p [][]int
	for range rows {
		p = append(p, slices.Repeat([]int{n}, columns))
	}
	return p
}

// eachTable hands on all rows of numbers from the least to the greatest, pile or not.
func eachTable(rows, columns, least, greatest int, do func(p [][]int)) {
	p := full(rows, columns, least)
	for {
		do(p)
		place := rows*columns - 1
		for place >= 0 && p[place/columns][place%columns] == greatest {
			p[place/columns][place%columns] = least
			place--
		}
		if place < 0 {
			return
		}
		p[place/columns][place%columns]++
	}
}

// isPile tells by P32's words whether the rows, of one length, are a pile in a room of that height.
func isPile(p [][]int, height int) bool {
	for i, row := range p {
		for j, n := range row {
			if n < 0 || n > height {
				return false
			}
			if j > 0 && n > row[j-1] || i > 0 && n > p[i-1][j] {
				return false
			}
		}
	}
	return true
}

// eachPile hands on all piles in such a room: all tables of numbers are gone through.
func eachPile(rows, columns, height int, do func(p [][]int)) {
	eachTable(rows, columns, 0, height, func(p [][]int) {
		if isPile(p, height) {
			do(p)
		}
	})
}

// room has rows, columns and a height.
type room struct{ rows, columns, height int }

// smallRooms are those whose tables can all be gone through.
func smallRooms() []room {
	var list []room
	for rows := 1; rows <= 4; rows++ {
		for columns := 1; columns <= 4; columns++ {
			for height := 1; height <= 4; height++ {
				if math.Pow(float64(height+1), float64(rows*columns)) <= 20000 {
					list = append(list, room{rows, columns, height})
				}
			}
		}
	}
	return list
}

// pileAndRoom is a pile, and how high its room is.
type pileAndRoom struct {
	p      [][]int
	height int
}

// greatPiles are some in rooms of all sides up to 8.
func greatPiles() []pileAndRoom {
	source := rand.New(rand.NewSource(32))
	var list []pileAndRoom
	for rows := 1; rows <= 8; rows++ {
		for columns := 1; columns <= 8; columns++ {
			for height := 1; height <= 8; height++ {
				list = append(list, pileAndRoom{full(rows, columns, 0), height}, pileAndRoom{full(rows, columns, height), height})
				for range 3 {
					list = append(list, pileAndRoom{randomPile(source, rows, columns, height), height})
				}
			}
		}
	}
	return list
}

// randomPile throws cubes into the room, and takes out those that would not lie right.
func randomPile(source *rand.Rand, rows, columns, height int) [][]int {
	p := full(rows, columns, 0)
	for range source.Intn(rows*columns*height + 1) {
		i, j := source.Intn(rows), source.Intn(columns)
		p[i][j]++
		if !isPile(p, height) {
			p[i][j]--
		}
	}
	return p
}

// badHeights are none of a room.
func badHeights() []int {
	return []int{0, -1, 9, 10, 20, -8, math.MinInt, math.MaxInt}
}

// badPiles are none, in a room of whatever height up to 8.
func badPiles() [][][]int {
	return [][][]int{
		nil, {}, {nil}, {{}}, {{}, {}}, {{1}, {}}, {{}, {1}}, {{1}, nil}, {{0}, {}}, {{}, {0}},
		{{1, 1}, {1}}, {{1}, {1, 1}}, {{1}, {1, 0}}, {{1, 0}, {1}}, {{0, 0}, {0}}, {{0}, {0, 0}}, {{0, 0, 0}, {0, 0, 0}, {0, 0}}, {{0, 0}, {0, 0}, {0, 0, 0}},
		full(9, 1, 0), full(1, 9, 0), full(9, 9, 0), full(8, 9, 1), full(9, 8, 1), full(1000, 1, 0), full(1, 1000, 0), full(9, 0, 0),
		append(full(7, 8, 0), make([]int, 9)), append(full(7, 8, 0), make([]int, 7)),
		{{-1}}, {{9}}, {{0, -1}}, {{0}, {-1}}, {{1, 0, -1}}, {{math.MinInt}}, {{math.MaxInt}}, {{0, math.MinInt}}, {{math.MaxInt, 0}},
		{{0, 1}}, {{0}, {1}}, {{1, 0, 1}}, {{1}, {0}, {1}}, {{1, 0}, {0, 1}}, {{1, 0}, {1, 1}}, {{1, 1}, {0, 1}}, {{1, 1, 0}, {1, 0, 0}, {0, 0, 1}},
	}
}

func TestCheck(t *testing.T) {
	for _, c := range []struct {
		p      [][]int
		height int
		want   api.Errno
	}{
		{[][]int{{0}}, 1, api.OK},
		{[][]int{{1}}, 1, api.OK},
		{[][]int{{2}}, 1, api.ErrArg},
		{[][]int{{2}}, 2, api.OK},
		{[][]int{{8}}, 8, api.OK},
		{[][]int{{8}}, 7, api.ErrArg},
		{[][]int{{9}}, 9, api.ErrArg},
		{[][]int{{0}}, 9, api.ErrArg},
		{[][]int{{0}}, 0, api.ErrArg},
		{[][]int{{2, 1}, {1, 0}}, 2, api.OK},
		{[][]int{{2, 1}, {1, 0}}, 1, api.ErrArg},
		{[][]int{{2, 1}, {2, 1}}, 2, api.OK},
		{[][]int{{2, 2}, {1, 1}}, 2, api.OK},
		{[][]int{{2, 1}, {1, 2}}, 2, api.ErrArg},
		{[][]int{{1, 2}, {1, 1}}, 2, api.ErrArg},
		{[][]int{{1, 1}, {2, 1}}, 2, api.ErrArg},
		{[][]int{{3, 1}, {2, 2}}, 3, api.ErrArg},
		{[][]int{{3, 2}, {1, 2}}, 3, api.ErrArg},
		{[][]int{{8, 7, 6, 5, 4, 3, 2, 1}}, 8, api.OK},
		{[][]int{{8}, {7}, {6}, {5}, {4}, {3}, {2}, {1}}, 8, api.OK},
		{full(8, 8, 8), 8, api.OK},
		{full(8, 8, 8), 7, api.ErrArg},
		{full(8, 8, 0), 1, api.OK},
		{full(8, 8, 1), 1, api.OK},
	} {
		if err := Check(c.p, c.height); err != c.want {
			t.Error(c.p, c.height, err, c.want)
		}
	}
}

// TestCheckOfAllTables: by P32's words.
func TestCheckOfAllTables(t *testing.T) {
	for rows := 1; rows <= 3; rows++ {
		for columns := 1; columns <= 3; columns++ {
			if rows*columns > 6 {
				continue
			}
			eachTable(rows, columns, -1, 3, func(p [][]int) {
				for height := 1; height <= 3; height++ {
					want := api.ErrArg
					if isPile(p, height) {
						want = api.OK
					}
					if err := Check(p, height); err != want {
						t.Fatal(p, height, err, want)
					}
				}
			})
		}
	}
	for _, g := range greatPiles() {
		if err := Check(g.p, g.height); err != api.OK {
			t.Fatal(g, err)
		}
	}
}

// TestCheckOfEachPlace: one cube too many, or one less than none, at whatever place.
func TestCheckOfEachPlace(t *testing.T) {
	for _, g := range greatPiles() {
		for i, row := range g.p {
			for j := range row {
				for _, by := range []int{-9, -1, 1, 9} {
					p := cloneRows(g.p)
					p[i][j] += by
					want := api.ErrArg
					if isPile(p, g.height) {
						want = api.OK
					}
					if err := Check(p, g.height); err != want {
						t.Fatal(p, g.height, err, want)
					}
				}
			}
		}
	}
}

// TestErrorsOfCheck, and of all calls that are handed a pile: they answer what Check says.
func TestErrorsOfCheck(t *testing.T) {
	check := func(p [][]int, height int) {
		t.Helper()
		for _, c := range calls() {
			if got := c.do(input{p: p, height: height}); c.ofPile && got.err != api.ErrArg {
				t.Error(c.name, p, height, got)
			}
		}
	}
	for _, p := range badPiles() {
		for height := 1; height <= 8; height++ {
			check(p, height)
		}
	}
	for _, height := range badHeights() {
		for _, p := range append(badPiles(), full(1, 1, 0), full(2, 3, 0), full(8, 8, 8), full(8, 8, 0), full(1, 1, height)) {
			check(p, height)
		}
	}
}

func TestVolume(t *testing.T) {
	for _, c := range []struct {
		p      [][]int
		height int
		want   int
	}{
		{[][]int{{0}}, 1, 0},
		{[][]int{{1}}, 1, 1},
		{[][]int{{3}}, 8, 3},
		{[][]int{{2, 1}, {1, 0}}, 2, 4},
		{[][]int{{2, 1, 1}}, 2, 4},
		{[][]int{{4, 3}, {4, 0}, {1, 0}}, 5, 12},
		{[][]int{{8, 7, 6, 5, 4, 3, 2, 1}}, 8, 36},
		{full(8, 8, 8), 8, 512},
		{full(8, 8, 0), 8, 0},
		{full(8, 1, 1), 1, 8},
	} {
		if n, err := Volume(c.p, c.height); err != api.OK || n != c.want {
			t.Error(c.p, c.height, n, err, c.want)
		}
	}
	for _, g := range greatPiles() {
		want := len(cubesOf(g.p))
		if n, err := Volume(g.p, g.height); err != api.OK || n != want {
			t.Error(g, n, err, want)
		}
	}
}

// cube lies in a row and a column on a level, all from 0 on.
type cube struct{ row, column, level int }

// cubesOf tells where the cubes of a pile lie.
func cubesOf(p [][]int) map[cube]bool {
	set := map[cube]bool{}
	for i, row := range p {
		for j, n := range row {
			for z := range n {
				set[cube{i, j, z}] = true
			}
		}
	}
	return set
}
