package domino

import (
	"math/rand"
	"regexp"
	"slices"
	"strings"
	"testing"

	"ferrers/api"
)

// full is the text of so many rows of so many times the same letter.
func full(rows, columns int, letter string) string {
	return strings.Join(slices.Repeat([]string{strings.Repeat(letter, columns)}, rows), "/")
}

// standing is the tiling of so many rows of so many standing dominoes.
func standing(rows, columns int) string {
	two := full(1, columns, "u") + "/" + full(1, columns, "d")
	return strings.Join(slices.Repeat([]string{two}, rows), "/")
}

// linesOf are the rows of a text, to be written into.
func linesOf(s string) [][]byte {
	var lines [][]byte
	for _, line := range strings.Split(s, "/") {
		lines = append(lines, []byte(line))
	}
	return lines
}

func textOf(lines [][]byte) string {
	var texts []string
	for _, line := range lines {
		texts = append(texts, string(line))
	}
	return strings.Join(texts, "/")
}

// eachTiling hands on all tilings of all boards of so many rows and columns: each cell has none, or a domino begins in it.
func eachTiling(rows, columns int, do func(s string)) {
	lines := linesOf(full(rows, columns, "?"))
	var put func(place int)
	put = func(place int) {
		if place == rows*columns {
			do(textOf(lines))
			return
		}
		i, j := place/columns, place%columns
		if lines[i][j] != '?' {
			put(place + 1)
			return
		}
		lines[i][j] = '.'
		put(place + 1)
		if j+1 < columns && lines[i][j+1] == '?' {
			lines[i][j], lines[i][j+1] = 'l', 'r'
			put(place + 1)
			lines[i][j+1] = '?'
		}
		if i+1 < rows {
			lines[i][j], lines[i+1][j] = 'u', 'd'
			put(place + 1)
			lines[i+1][j] = '?'
		}
		lines[i][j] = '?'
	}
	put(0)
}

// tilingsOf lists all tilings that have the board, in the order of bytes. They are laid from the last cell back.
func tilingsOf(board string) []string {
	lines := linesOf(board)
	var list []string
	var put func(i, j int)
	put = func(i, j int) {
		if j < 0 {
			i, j = i-1, len(lines[0])-1
		}
		if i < 0 {
			list = append(list, textOf(lines))
			return
		}
		if lines[i][j] != '#' {
			put(i, j-1)
			return
		}
		if i > 0 && lines[i-1][j] == '#' {
			lines[i-1][j], lines[i][j] = 'u', 'd'
			put(i, j-1)
			lines[i-1][j], lines[i][j] = '#', '#'
		}
		if j > 0 && lines[i][j-1] == '#' {
			lines[i][j-1], lines[i][j] = 'l', 'r'
			put(i, j-1)
			lines[i][j-1], lines[i][j] = '#', '#'
		}
	}
	put(len(lines)-1, len(lines[0])-1)
	slices.Sort(list)
	return list
}

// boardOf has a cell for each half of a domino.
func boardOf(tiling string) string {
	return strings.NewReplacer("l", "#", "r", "#", "u", "#", "d", "#").Replace(tiling)
}

// eachText hands on all texts of up to so many of these letters.
func eachText(letters string, most int, do func(s string)) {
	var put func(s string)
	put = func(s string) {
		do(s)
		if len(s) == most {
			return
		}
		for _, letter := range letters {
			put(s + string(letter))
		}
	}
	put("")
}

// randomBoards are some of all sides up to 8.
func randomBoards() []string {
	source := rand.New(rand.NewSource(35))
	var list []string
	for rows := 1; rows <= 8; rows++ {
		for columns := 1; columns <= 8; columns++ {
			for _, share := range []int{3, 10, 1000} {
				lines := linesOf(full(rows, columns, "#"))
				for _, line := range lines {
					for j := range line {
						if source.Intn(share) == 0 {
							line[j] = '.'
						}
					}
				}
				list = append(list, textOf(lines))
			}
		}
	}
	return list
}

// randomTilings are some of all sides up to 8: dominoes are thrown, and stay where there is room.
func randomTilings() []string {
	source := rand.New(rand.NewSource(36))
	var list []string
	for rows := 1; rows <= 8; rows++ {
		for columns := 1; columns <= 8; columns++ {
			for _, throws := range []int{0, rows * columns / 2, 10 * rows * columns} {
				lines := linesOf(full(rows, columns, "."))
				for range throws {
					i, j := source.Intn(rows), source.Intn(columns)
					switch {
					case lines[i][j] != '.':
					case source.Intn(2) == 0 && j+1 < columns && lines[i][j+1] == '.':
						lines[i][j], lines[i][j+1] = 'l', 'r'
					case i+1 < rows && lines[i+1][j] == '.':
						lines[i][j], lines[i+1][j] = 'u', 'd'
					}
				}
				list = append(list, textOf(lines))
			}
		}
	}
	return list
}

// badRows are neither boards nor tilings, by their rows alone.
func badRows(letter string) []string {
	three := strings.Repeat(letter, 3)
	return []string{
		"", "/", "//", "///////", letter + "/", "/" + letter, letter + "//" + letter, three + "/" + three + "/", "/" + three + "/" + three,
		three + "//" + three, three + "/" + letter, letter + "/" + three, three + "/" + three + "/" + three + letter, three + letter + "/" + three,
		full(9, 1, letter), full(1, 9, letter), full(9, 8, letter), full(8, 9, letter), full(9, 9, letter), full(7, 10, letter), full(36, 1, letter), full(1, 71, letter), full(1, 72, letter),
		full(8, 8, letter) + letter, full(8, 8, letter) + "/", full(8, 8, letter) + "/" + letter, full(7, 8, letter) + "/" + strings.Repeat(letter, 7), full(7, 8, letter) + "/" + strings.Repeat(letter, 9),
		full(2, 35, letter), full(1000, 1000, letter), strings.Repeat("/", 1000), strings.Repeat("/", 71), strings.Repeat("/", 7),
		" " + letter, letter + " ", letter + "\n", letter + "\\" + letter, letter + "|" + letter, letter + " /" + letter, letter + "/\x00", "\x00", "\xff", "é", letter + "/é", letter + "\xc3",
	}
}

// badBoards are no boards.
func badBoards() []string {
	return append(append(badRows("#"), badRows(".")...), "l", "lr", "u/d", "lr/lr", "x", "0", "1", "#.x", "#/x", "##/lr", "#,", "##/#x/##", "#o", "##/##/#", "#/##")
}

// badTilings are no tilings.
func badTilings() []string {
	list := append(badRows("."), badRows("l")...)
	list = append(list, badRows("lr")...)
	return append(list,
		"#", "##", "#.", "lr#", "lr/##", "L", "LR", "U/D", "x", "lx", "l", "r", "u", "d", "l.", ".l", "r.", ".r", "u.", "d.", "u/.", "d/.", "./u", "./d",
		"rl", "ll", "rr", "lu/rd", "ud", "du", "d/u", "l/r", "r/l", "u/u", "d/d", "l/lr", "lr/l", "ll/rr", "uu/du", "ud/du", "lrl", "lrr", "llr", "rlr", "lr/lr/l.", "l.r", "u/./d", ".l/r.", "l./.r", ".u/d.", "u./.d",
		"ul/dr", "lr/.l/r.", "ul/r.", ".l/rl", "lr/ud", "ulr/dlu", "lrd/lru", "rl/rl", "dd/uu", "uu/dd/u.", "u/d/u", "u/d/d", "u/u/d", "d/u/d", "lr.l", "r.lr",
		full(8, 8, "l"), full(8, 8, "u"), full(7, 4, "lr")+"/lrlrlrlu", "lrlrlrll/"+full(7, 4, "lr"), standing(4, 8)+"/uuuuuuuu", standing(3, 8)+"/uuuuuuuu",
		standing(3, 8)+"/uuuuuuuu/ddddddd.", standing(5, 8), "....l/r....", "u.d/d.u",
	)
}

func TestCheck(t *testing.T) {
	for _, s := range []string{
		"#", ".", "##", "#.", ".#", "..", "#/#", "./.", "#/.", "##/##", "#.#/.#./#.#", "########", "........", "#/#/#/#/#/#/#/#", "./././././././.",
		full(8, 8, "#"), full(8, 8, "."), full(8, 1, "#"), full(1, 8, "#"), full(8, 7, "."), full(7, 8, "#"), ".##./####/####/.##.",
	} {
		if err := Check(s); err != api.OK {
			t.Error(s, err)
		}
	}
	for _, s := range badBoards() {
		if err := Check(s); err != api.ErrArg {
			t.Error(s, err)
		}
	}
}

var rowsOfCells = regexp.MustCompile(`^[#.]{1,8}(/[#.]{1,8}){0,7}$`)

// boardError tells by P35's words what Check should say.
func boardError(s string) api.Errno {
	if !rowsOfCells.MatchString(s) {
		return api.ErrArg
	}
	lines := strings.Split(s, "/")
	for _, line := range lines {
		if len(line) != len(lines[0]) {
			return api.ErrArg
		}
	}
	return api.OK
}

func TestCheckOfAllTexts(t *testing.T) {
	eachText("#./", 10, func(s string) {
		if err, want := Check(s), boardError(s); err != want {
			t.Fatal(s, err, want)
		}
	})
}

// TestCheckOfAllSides: whether there may be so many rows and columns.
func TestCheckOfAllSides(t *testing.T) {
	for rows := 1; rows <= 20; rows++ {
		for columns := 0; columns <= 20; columns++ {
			want := api.ErrArg
			if rows <= 8 && columns >= 1 && columns <= 8 {
				want = api.OK
			}
			for _, letter := range []string{"#", "."} {
				if err := Check(full(rows, columns, letter)); err != want {
					t.Error(rows, columns, err, want)
				}
			}
			if err := CheckTiling(full(rows, columns, ".")); err != want {
				t.Error(rows, columns, err, want)
			}
			if err := CheckTiling(full(rows, columns, "lr")); err != want && columns <= 4 {
				t.Error(rows, 2*columns, err, want)
			}
		}
	}
}

// TestCheckOfEachByte, at whatever place.
func TestCheckOfEachByte(t *testing.T) {
	for _, board := range []string{"#", "##/..", "#.#/.#./###", full(8, 8, "#")} {
		for place := range len(board) {
			for b := range 256 {
				s := board[:place] + string([]byte{byte(b)}) + board[place+1:]
				if err, want := Check(s), boardError(s); err != want {
					t.Error(s, err, want)
				}
			}
		}
	}
	for _, tiling := range []string{"lr", "u/d", "u.lr/dlr.", full(8, 4, "lr"), standing(4, 8)} {
		for place := range len(tiling) {
			for b := range 256 {
				if tiling[place] == '/' || b == '/' {
					continue
				}
				s := tiling[:place] + string([]byte{byte(b)}) + tiling[place+1:]
				want := api.ErrArg
				if s == tiling {
					want = api.OK
				}
				if err := CheckTiling(s); err != want {
					t.Error(s, err, want)
				}
			}
		}
	}
}

func TestCheckTiling(t *testing.T) {
	for _, s := range []string{
		".", "lr", "u/d", "..", "./.", ".lr", "lr.", "lrlr", "lr/lr", "uu/dd", "u.u/d.d", "lru/lrd", "ulr/dlr", "lr./.lr", "u/d/u/d", ".lr./lruu/lrdd/.lr.",
		"lrlrlrlr", "u/d/u/d/u/d/u/d", full(8, 4, "lr"), full(8, 8, "."), standing(4, 8), "lru/u.d/dlr", "u./du/.d",
	} {
		if err := CheckTiling(s); err != api.OK {
			t.Error(s, err)
		}
	}
	for _, s := range badTilings() {
		if err := CheckTiling(s); err != api.ErrArg {
			t.Error(s, err)
		}
	}
}

// TestCheckTilingOfAllTexts: the tilings are those that are laid domino by domino, and no other text is one.
func TestCheckTilingOfAllTexts(t *testing.T) {
	const most = 7
	tilings := map[string]bool{}
	for rows := 1; rows <= 8; rows++ {
		for columns := 1; columns <= 8; columns++ {
			if rows*(columns+1)-1 <= most {
				eachTiling(rows, columns, func(s string) { tilings[s] = true })
			}
		}
	}
	found := 0
	eachText("lrud./", most, func(s string) {
		want := api.ErrArg
		if tilings[s] {
			want = api.OK
			found++
		}
		if err := CheckTiling(s); err != want {
			t.Fatal(s, err, want)
		}
	})
	if found != len(tilings) {
		t.Error(found, len(tilings))
	}
}

func TestCheckTilingOfGreatOnes(t *testing.T) {
	eachTiling(4, 4, func(s string) {
		if err := CheckTiling(s); err != api.OK {
			t.Fatal(s, err)
		}
	})
	for _, s := range randomTilings() {
		if err := CheckTiling(s); err != api.OK {
			t.Error(s, err)
		}
	}
}

// TestCheckTilingWithAnotherHalf: each half is needed, and no other would do.
func TestCheckTilingWithAnotherHalf(t *testing.T) {
	for _, tiling := range randomTilings() {
		for place := range len(tiling) {
			for _, b := range "lrud.#" {
				s := tiling[:place] + string(b) + tiling[place+1:]
				if s == tiling || tiling[place] == '/' {
					continue
				}
				if err := CheckTiling(s); err != api.ErrArg {
					t.Fatal(tiling, s, err)
				}
			}
		}
	}
}

func TestBoard(t *testing.T) {
	for _, c := range []struct{ s, want string }{
		{".", "."},
		{"lr", "##"},
		{"u/d", "#/#"},
		{"lr./.lr", "##./.##"},
		{"u.lr/dlr.", "#.##/###."},
		{".lr./lruu/lrdd/.lr.", ".##./####/####/.##."},
		{full(8, 8, "."), full(8, 8, ".")},
		{full(8, 4, "lr"), full(8, 8, "#")},
	} {
		if s, err := Board(c.s); err != api.OK || s != c.want {
			t.Error(c, s, err)
		}
	}
	check := func(tiling string) {
		if s, err := Board(tiling); err != api.OK || s != boardOf(tiling) || Check(s) != api.OK {
			t.Fatal(tiling, s, err)
		}
	}
	eachTiling(3, 4, check)
	for _, tiling := range randomTilings() {
		check(tiling)
	}
	for _, s := range badTilings() {
		if board, err := Board(s); board != "" || err != api.ErrArg {
			t.Error(s, board, err)
		}
	}
}
