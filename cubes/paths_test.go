package cubes

import (
	"slices"
	"strings"
	"testing"

	"ferrers/api"
)

func TestPaths(t *testing.T) {
	for _, c := range []struct {
		p    [][]int
		want []string
	}{
		{[][]int{{0}}, []string{"UR"}},
		{[][]int{{1}}, []string{"RU"}},
		{[][]int{{1}}, []string{"RU", "UR", "UR"}},
		{[][]int{{2, 1}, {1, 0}}, []string{"RURU", "URUR"}},
		{[][]int{{2, 1}}, []string{"RRU", "RUR"}},
		{[][]int{{2}, {1}}, []string{"RUU", "URU"}},
		{[][]int{{3, 3, 1}, {2, 0, 0}}, []string{"RURRU", "RURUR", "URRUR"}},
		{[][]int{{1, 1, 1}, {0, 0, 0}}, []string{"URRRU", "UURRR"}},
		{full(8, 8, 1), []string{strings.Repeat("R", 8) + strings.Repeat("U", 8)}},
		{full(8, 8, 0), []string{strings.Repeat("U", 8) + strings.Repeat("R", 8)}},
		{[][]int{{8, 7, 6, 5, 4, 3, 2, 1}}, []string{
			"RRRRRRRRU", "RRRRRRRUR", "RRRRRRURR", "RRRRRURRR", "RRRRURRRR", "RRRURRRRR", "RRURRRRRR", "RURRRRRRR",
		}},
	} {
		pathsHeld(t, c.p, c.want)
	}
}

// pathsHeld tells whether the pile and its texts are made of one another.
func pathsHeld(t *testing.T, p [][]int, want []string) {
	t.Helper()
	if list, err := Paths(p, len(want)); err != api.OK || !slices.Equal(list, want) {
		t.Fatal(p, list, err, want)
	}
	if back, err := FromPaths(want); err != api.OK || !sameRows(back, p) {
		t.Fatal(want, back, err, p)
	}
}

// walked is the edge of a level: it stands at corners of the places, on the lower side of the last row at first,
// and goes to the right as long as a box of the row above it is there, else up.
func walked(p [][]int, k int) string {
	text, row, column := "", len(p)-1, 0
	for row >= 0 || column < len(p[0]) {
		if row < 0 || column < len(p[0]) && p[row][column] >= k {
			text += "R"
			column++
		} else {
			text += "U"
			row--
		}
	}
	return text
}

func walkedAll(p [][]int, height int) []string {
	var list []string
	for k := 1; k <= height; k++ {
		list = append(list, walked(p, k))
	}
	return list
}

// TestPathsAreWalked, there and back: all piles of small rooms, and some of great ones.
func TestPathsAreWalked(t *testing.T) {
	for _, r := range smallRooms() {
		eachPile(r.rows, r.columns, r.height, func(p [][]int) {
			pathsHeld(t, p, walkedAll(p, r.height))
		})
	}
	for _, g := range greatPiles() {
		pathsHeld(t, g.p, walkedAll(g.p, g.height))
	}
}

// steps lists all texts of so many steps up and to the right.
func steps(up, right int) []string {
	if up == 0 && right == 0 {
		return []string{""}
	}
	var list []string
	if right > 0 {
		for _, text := range steps(up, right-1) {
			list = append(list, "R"+text)
		}
	}
	if up > 0 {
		for _, text := range steps(up-1, right) {
			list = append(list, "U"+text)
		}
	}
	return list
}

// eachList hands on all lists of so many of the texts.
func eachList(texts []string, many int, do func(l []string)) {
	var add func(l []string)
	add = func(l []string) {
		if len(l) == many {
			do(l)
			return
		}
		for _, text := range texts {
			add(append(slices.Clone(l), text))
		}
	}
	add(nil)
}

// boxesIn tells, by rows and columns from 0 on, which boxes lie to the left of the text's steps up.
func boxesIn(text string, rows int) map[cube]bool {
	set := map[cube]bool{}
	for i := range text {
		if text[i] == 'U' {
			row := rows - 1 - strings.Count(text[:i], "U")
			for column := range strings.Count(text[:i], "R") {
				set[cube{row: row, column: column}] = true
			}
		}
	}
	return set
}

// fromWords makes a pile of texts of so many steps up and to the right, by P33's words.
func fromWords(l []string, rows, columns int) ([][]int, api.Errno) {
	p := full(rows, columns, 0)
	for k, text := range l {
		for box := range boxesIn(text, rows) {
			for _, ahead := range l[:k] {
				if !boxesIn(ahead, rows)[box] {
					return nil, api.ErrShape
				}
			}
			p[box.row][box.column]++
		}
	}
	return p, api.OK
}

// TestFromPathsOfAllLists of texts that are walks in one room.
func TestFromPathsOfAllLists(t *testing.T) {
	shapes, fine := 0, 0
	for rows := 1; rows <= 3; rows++ {
		for columns := 1; columns <= 3; columns++ {
			texts := steps(rows, columns)
			for many := 1; many <= 3; many++ {
				eachList(texts, many, func(l []string) {
					want, wrong := fromWords(l, rows, columns)
					p, err := FromPaths(l)
					if err != wrong || !sameRows(p, want) {
						t.Fatal(l, p, err, want, wrong)
					}
					if err != api.OK {
						shapes++
						return
					}
					fine++
					if back, err := Paths(p, many); err != api.OK || !slices.Equal(back, l) {
						t.Fatal(p, back, err, l)
					}
				})
			}
		}
	}
	if shapes < 1000 || fine < 1000 {
		t.Error(shapes, fine)
	}
}

func TestErrorsOfFromPaths(t *testing.T) {
	ups, rights := strings.Repeat("U", 8), strings.Repeat("R", 8)
	for _, c := range []struct {
		l    []string
		want api.Errno
	}{
		{nil, api.ErrArg},
		{[]string{}, api.ErrArg},
		{slices.Repeat([]string{"UR"}, 8), api.OK},
		{slices.Repeat([]string{"UR"}, 9), api.ErrArg},
		{slices.Repeat([]string{"RU"}, 8), api.OK},
		{slices.Repeat([]string{"RU"}, 9), api.ErrArg},
		{slices.Repeat([]string{ups + rights}, 8), api.OK},
		{[]string{ups + rights}, api.OK},
		{[]string{rights + ups}, api.OK},
		{[]string{"U" + ups + rights}, api.ErrArg},
		{[]string{ups + rights + "R"}, api.ErrArg},
		{[]string{ups + "R"}, api.OK},
		{[]string{"U" + ups + "R"}, api.ErrArg},
		{[]string{"U" + rights}, api.OK},
		{[]string{"U" + rights + "R"}, api.ErrArg},
		{[]string{strings.Repeat("UR", 1<<20)}, api.ErrArg},
		{[]string{""}, api.ErrArg},
		{[]string{"U"}, api.ErrArg},
		{[]string{"R"}, api.ErrArg},
		{[]string{"UU"}, api.ErrArg},
		{[]string{"RR"}, api.ErrArg},
		{[]string{"", "UR"}, api.ErrArg},
		// Bytes of the first text that are neither.
		{[]string{"URx"}, api.ErrArg},
		{[]string{"xUR"}, api.ErrArg},
		{[]string{"U R"}, api.ErrArg},
		{[]string{"UR\n"}, api.ErrArg},
		{[]string{"UR\x00"}, api.ErrArg},
		{[]string{"URé"}, api.ErrArg},
		{[]string{"UR\xff"}, api.ErrArg},
		{[]string{"ur"}, api.ErrArg},
		{[]string{"URu"}, api.ErrArg},
		{[]string{"URr"}, api.ErrArg},
		{[]string{"URx", "URx"}, api.ErrArg},
		// Other texts that have not as many of both, or something else.
		{[]string{"RU", ""}, api.ErrArg},
		{[]string{"RU", "U"}, api.ErrArg},
		{[]string{"RU", "R"}, api.ErrArg},
		{[]string{"RU", "RUU"}, api.ErrArg},
		{[]string{"RU", "RRU"}, api.ErrArg},
		{[]string{"RU", "RRUU"}, api.ErrArg},
		{[]string{"RRU", "RUU"}, api.ErrArg},
		{[]string{"RUU", "RRU"}, api.ErrArg},
		{[]string{"RRUU", "RRRU"}, api.ErrArg},
		{[]string{"RRUU", "RUUU"}, api.ErrArg},
		{[]string{"RRUU", "URURx"}, api.ErrArg},
		{[]string{"RRUU", "xURUR"}, api.ErrArg},
		{[]string{"RRUU", "URUx"}, api.ErrArg},
		{[]string{"RRUU", "xRUR"}, api.ErrArg},
		{[]string{"RRUU", "urur"}, api.ErrArg},
		{[]string{"RRUU", "URUR", "URU"}, api.ErrArg},
		// Boxes that lie on nothing.
		{[]string{"UR", "RU"}, api.ErrShape},
		{[]string{"URUR", "RURU"}, api.ErrShape},
		{[]string{"URRU", "RUUR"}, api.ErrShape},
		{[]string{"RUUR", "URRU"}, api.ErrShape},
		{[]string{"RRUU", "URUR", "RURU"}, api.ErrShape},
		{[]string{"RU", "UR", "RU"}, api.ErrShape},
		{[]string{"RU", "RU", "UR", "UR", "UR", "UR", "UR", "RU"}, api.ErrShape},
		// Text by text: what is wrong with an earlier one is told.
		{[]string{"UR", "RU", "x"}, api.ErrShape},
		{[]string{"UR", "RU", ""}, api.ErrShape},
		{[]string{"UR", "x", "RU"}, api.ErrArg},
		{[]string{"UR", "RUU", "RU"}, api.ErrArg},
		{[]string{"URx", "RU", "RU"}, api.ErrArg},
		{[]string{"UR", "RUx"}, api.ErrArg},
		{[]string{"RU", "UR", "RU", "RUx"}, api.ErrShape},
		{append([]string{"UR", "RU"}, slices.Repeat([]string{"UR"}, 6)...), api.ErrShape},
		{append([]string{"UR", "RU"}, slices.Repeat([]string{"UR"}, 7)...), api.ErrArg},
		{slices.Repeat([]string{"x"}, 1<<20), api.ErrArg},
	} {
		p, err := FromPaths(c.l)
		if err != c.want || err != api.OK && p != nil {
			t.Errorf("%.100q: %v %v, not %v", c.l, p, err, c.want)
		}
	}
}

// TestFromPathsOfEachByte: one byte of a text that is another one.
func TestFromPathsOfEachByte(t *testing.T) {
	for _, g := range greatPiles() {
		l := walkedAll(g.p, g.height)
		k := len(g.p) % g.height
		for i := range l[k] {
			for _, by := range []string{"", "x", "RU", "UU", "RR", "u", "\x00", "é", "1"} {
				changed := slices.Clone(l)
				changed[k] = l[k][:i] + by + l[k][i+1:]
				if p, err := FromPaths(changed); g.height > 1 && (p != nil || err != api.ErrArg) {
					t.Fatal(changed, p, err)
				}
			}
		}
	}
}
