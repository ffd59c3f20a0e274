package cubes

import (
	"maps"
	"strconv"
	"testing"

	"ferrers/api"
)

// turn is a call that makes another pile, and what becomes of the room, and of each cube.
type turn struct {
	name string
	do   func(p [][]int, height int) ([][]int, api.Errno)
	room func(r room) room
	cube func(c cube) cube
}

// onSides are the turns that keep the cubes.
func onSides() []turn {
	return []turn{
		{"Turned", Turned,
			func(r room) room { return room{r.columns, r.height, r.rows} },
			func(c cube) cube { return cube{c.column, c.level, c.row} }},
		{"Mirrored", Mirrored,
			func(r room) room { return room{r.columns, r.rows, r.height} },
			func(c cube) cube { return cube{c.column, c.row, c.level} }},
	}
}

// eachOf hands on all piles of small rooms, and some of great ones.
func eachOf(do func(p [][]int, r room)) {
	for _, r := range smallRooms() {
		eachPile(r.rows, r.columns, r.height, func(p [][]int) { do(p, r) })
	}
	for _, g := range greatPiles() {
		do(g.p, room{len(g.p), len(g.p[0]), g.height})
	}
}

// made answers what a call makes of a pile, which must be a pile in that room.
func made(t *testing.T, do func([][]int, int) ([][]int, api.Errno), p [][]int, height int, r room) [][]int {
	t.Helper()
	q, err := do(p, height)
	if err != api.OK || len(q) != r.rows || !isPile(q, r.height) {
		t.Fatal(p, height, q, err, r)
	}
	for _, row := range q {
		if len(row) != r.columns {
			t.Fatal(p, height, q, r)
		}
	}
	return q
}

func TestTurns(t *testing.T) {
	for _, c := range []struct {
		p                      [][]int
		height                 int
		turned, mirrored, rest [][]int
	}{
		{[][]int{{0}}, 1, [][]int{{0}}, [][]int{{0}}, [][]int{{1}}},
		{[][]int{{1}}, 1, [][]int{{1}}, [][]int{{1}}, [][]int{{0}}},
		{[][]int{{1}}, 3, [][]int{{1, 0, 0}}, [][]int{{1}}, [][]int{{2}}},
		{[][]int{{2, 1}}, 2, [][]int{{1, 1}, {1, 0}}, [][]int{{2}, {1}}, [][]int{{1, 0}}},
		{[][]int{{2, 1}}, 3, [][]int{{1, 1, 0}, {1, 0, 0}}, [][]int{{2}, {1}}, [][]int{{2, 1}}},
		{[][]int{{2}, {1}}, 2, [][]int{{2, 1}}, [][]int{{2, 1}}, [][]int{{1}, {0}}},
		{[][]int{{1, 1}, {1, 0}}, 1, [][]int{{2}, {1}}, [][]int{{1, 1}, {1, 0}}, [][]int{{1, 0}, {0, 0}}},
		{[][]int{{2, 1}, {1, 0}}, 2, [][]int{{2, 1}, {1, 0}}, [][]int{{2, 1}, {1, 0}}, [][]int{{2, 1}, {1, 0}}},
		{[][]int{{3, 2, 2}, {1, 1, 0}}, 4, [][]int{{2, 1, 1, 0}, {2, 1, 0, 0}, {1, 1, 0, 0}}, [][]int{{3, 1}, {2, 1}, {2, 0}}, [][]int{{4, 3, 3}, {2, 2, 1}}},
		{full(8, 8, 8), 8, full(8, 8, 8), full(8, 8, 8), full(8, 8, 0)},
		{full(8, 1, 3), 8, [][]int{{8, 8, 8, 0, 0, 0, 0, 0}}, full(1, 8, 3), full(8, 1, 5)},
	} {
		if q, err := Turned(c.p, c.height); err != api.OK || !sameRows(q, c.turned) {
			t.Error(c, q, err)
		}
		if q, err := Mirrored(c.p, c.height); err != api.OK || !sameRows(q, c.mirrored) {
			t.Error(c, q, err)
		}
		if q, err := Rest(c.p, c.height); err != api.OK || !sameRows(q, c.rest) {
			t.Error(c, q, err)
		}
	}
}

// TestTurnsCubeByCube: each cube goes to the place that the turn has for it, and no other is there.
func TestTurnsCubeByCube(t *testing.T) {
	eachOf(func(p [][]int, r room) {
		for _, turn := range onSides() {
			want := map[cube]bool{}
			for c := range cubesOf(p) {
				want[turn.cube(c)] = true
			}
			if q := made(t, turn.do, p, r.height, turn.room(r)); !maps.Equal(cubesOf(q), want) {
				t.Fatal(turn.name, p, r.height, q)
			}
		}
	})
}

// TestTurnedByItsWords: how many rows have at a column more than z.
func TestTurnedByItsWords(t *testing.T) {
	eachOf(func(p [][]int, r room) {
		q := made(t, Turned, p, r.height, room{r.columns, r.height, r.rows})
		for j, row := range q {
			for z, n := range row {
				many := 0
				for i := range p {
					if p[i][j] > z {
						many++
					}
				}
				if n != many {
					t.Fatal(p, r.height, q)
				}
			}
		}
	})
}

// TestRestCubeByCube: what is not in the pile is in the rest, from the far corner.
func TestRestCubeByCube(t *testing.T) {
	eachOf(func(p [][]int, r room) {
		set, rest := cubesOf(p), cubesOf(made(t, Rest, p, r.height, r))
		for i := range r.rows {
			for j := range r.columns {
				for z := range r.height {
					if set[cube{i, j, z}] == rest[cube{r.rows - 1 - i, r.columns - 1 - j, r.height - 1 - z}] {
						t.Fatal(p, r.height, i, j, z)
					}
				}
			}
		}
	})
}

// TestTurnedOftenEnough: turned three times, mirrored twice, and the rest of the rest.
func TestTurnedOftenEnough(t *testing.T) {
	eachOf(func(p [][]int, r room) {
		once := made(t, Turned, p, r.height, room{r.columns, r.height, r.rows})
		twice := made(t, Turned, once, r.rows, room{r.height, r.rows, r.columns})
		if back := made(t, Turned, twice, r.columns, r); !sameRows(back, p) {
			t.Fatal("turned", p, r, back)
		}
		mirrored := made(t, Mirrored, p, r.height, room{r.columns, r.rows, r.height})
		if back := made(t, Mirrored, mirrored, r.height, r); !sameRows(back, p) {
			t.Fatal("mirrored", p, r, back)
		}
		if back := made(t, Rest, made(t, Rest, p, r.height, r), r.height, r); !sameRows(back, p) {
			t.Fatal("rest", p, r, back)
		}
		// Mirrored, turned and mirrored is turned back, and so is turned twice.
		turned := made(t, Turned, mirrored, r.height, room{r.rows, r.height, r.columns})
		if other := made(t, Mirrored, turned, r.columns, room{r.height, r.rows, r.columns}); !sameRows(other, twice) {
			t.Fatal("both", p, r, other, twice)
		}
	})
}

// TestTurnsOfAll: the piles of a room become those of the turned one, each once.
func TestTurnsOfAll(t *testing.T) {
	for _, r := range append(smallRooms(), room{3, 3, 3}, room{2, 2, 8}, room{2, 8, 2}, room{8, 2, 2}, room{1, 5, 8}, room{5, 8, 1}) {
		list, err := All(r.rows, r.columns, r.height)
		if err != api.OK {
			t.Fatal(r, err)
		}
		for _, turn := range append(onSides(), turn{"Rest", Rest, func(r room) room { return r }, nil}) {
			to := turn.room(r)
			others, err := All(to.rows, to.columns, to.height)
			if err != api.OK || len(others) != len(list) {
				t.Fatal(turn.name, r, len(others), err)
			}
			left := map[string]int{}
			for _, p := range others {
				left[brief(p)]++
			}
			for _, p := range list {
				left[brief(made(t, turn.do, p, r.height, to))]--
			}
			for text, n := range left {
				if n != 0 {
					t.Fatal(turn.name, r, text, n)
				}
			}
		}
	}
}

// brief writes a pile as a text.
func brief(p [][]int) string {
	text := ""
	for _, row := range p {
		for _, n := range row {
			text += strconv.Itoa(n) + " "
		}
		text += "/"
	}
	return text
}
