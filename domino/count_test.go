package domino

import (
	"math"
	"math/rand"
	"slices"
	"strings"
	"testing"

	"ferrers/api"
)

func countOf(t *testing.T, board string) int64 {
	t.Helper()
	n, err := Count(board)
	if err != api.OK {
		t.Fatal(board, err)
	}
	return n
}

func TestCount(t *testing.T) {
	for _, c := range []struct {
		board string
		want  int64
	}{
		{".", 1},
		{"#", 0},
		{"##", 1},
		{"#/#", 1},
		{"#.", 0},
		{"#.#", 0},
		{"#./.#", 0},
		{"##/##", 2},
		{"###/###", 3},
		{"###/#.#/###", 2},
		{"###/###/###", 0},
		{"##./###/.##", 0},
		{".##/###/##.", 0},
		{".##./####/###.", 0},
		{".###/####/###.", 5},
		{"##.##/##.##", 4},
		{"##../##../..##/..##", 4},
		{"####/####/####/###.", 0},
		{".###/####/####/###.", 0},
		{"#######./.#######", 0},
		{"########", 1},
		{"#######.", 0},
		{"#/#/#/#/#/#/#/#", 1},
		{".......#/#.......", 0},
		{".......#/.......#", 1},
		{"....../....##", 1},
		{full(8, 8, "."), 1},
		{full(2, 8, "#"), 34},
		{full(8, 2, "#"), 34},
		{full(3, 8, "#"), 153},
		{full(4, 4, "#"), 36},
		{full(4, 8, "#"), 2245},
		{full(5, 8, "#"), 14824},
		{full(6, 6, "#"), 6728},
		{full(6, 8, "#"), 167089},
		{full(7, 8, "#"), 1292697},
		{full(8, 8, "#"), 12988816},
		{full(7, 7, "#"), 0},
	} {
		if n, err := Count(c.board); err != api.OK || n != c.want {
			t.Error(c, n, err)
		}
	}
	for _, s := range badBoards() {
		if n, err := Count(s); n != 0 || err != api.ErrArg {
			t.Error(s, n, err)
		}
	}
}

// TestCountOfRectangles: by the formula of KASTELEYN, TEMPERLEY, FISHER.
func TestCountOfRectangles(t *testing.T) {
	for rows := 1; rows <= 8; rows++ {
		for columns := 1; columns <= 8; columns++ {
			product := 1.0
			for i := 1; i <= rows; i++ {
				for j := 1; j <= columns; j++ {
					a, b := math.Cos(math.Pi*float64(i)/float64(rows+1)), math.Cos(math.Pi*float64(j)/float64(columns+1))
					product *= math.Pow(4*a*a+4*b*b, 0.25)
				}
			}
			if n := countOf(t, full(rows, columns, "#")); n != int64(math.Round(product)) {
				t.Error(rows, columns, n, product)
			}
		}
	}
}

// TestCountIsListed: one by one, of all boards of small sides.
func TestCountIsListed(t *testing.T) {
	for _, sides := range [][2]int{{1, 1}, {1, 8}, {8, 1}, {2, 3}, {3, 2}, {3, 3}, {3, 4}, {4, 3}, {2, 6}, {6, 2}, {4, 4}} {
		counts, firsts := map[string]int64{}, map[string]string{}
		eachTiling(sides[0], sides[1], func(s string) {
			board := boardOf(s)
			if first, met := firsts[board]; !met || s < first {
				firsts[board] = s
			}
			counts[board]++
		})
		eachBoard(sides[0], sides[1], func(board string) {
			if n, err := Count(board); err != api.OK || n != counts[board] {
				t.Fatal(board, n, err, counts[board])
			}
			want := api.ErrNone
			if counts[board] > 0 {
				want = api.OK
			}
			if s, err := First(board); err != want || s != firsts[board] {
				t.Fatal(board, s, err, firsts[board])
			}
		})
	}
}

// eachBoard hands on all boards of so many rows and columns.
func eachBoard(rows, columns int, do func(board string)) {
	for set := range 1 << (rows * columns) {
		lines := linesOf(full(rows, columns, "."))
		for place := range rows * columns {
			if set>>place&1 == 1 {
				lines[place/columns][place%columns] = '#'
			}
		}
		do(textOf(lines))
	}
}

// TestCountByAnyCell: whatever cell is covered first, what is left over is counted to the same.
func TestCountByAnyCell(t *testing.T) {
	source := rand.New(rand.NewSource(37))
	for _, board := range randomBoards() {
		lines := linesOf(board)
		i, j := source.Intn(len(lines)), source.Intn(len(lines[0]))
		if lines[i][j] != '#' {
			continue
		}
		lines[i][j] = '.'
		sum := int64(0)
		for _, to := range [][2]int{{i - 1, j}, {i + 1, j}, {i, j - 1}, {i, j + 1}} {
			row, column := to[0], to[1]
			if row < 0 || row >= len(lines) || column < 0 || column >= len(lines[0]) || lines[row][column] != '#' {
				continue
			}
			lines[row][column] = '.'
			sum += countOf(t, textOf(lines))
			lines[row][column] = '#'
		}
		if n := countOf(t, board); n != sum {
			t.Error(board, i, j, n, sum)
		}
	}
}

// transposed lets rows and columns change places.
func transposed(s string) string {
	lines := linesOf(s)
	turned := linesOf(full(len(lines[0]), len(lines), "."))
	for i, line := range lines {
		for j, b := range line {
			turned[j][i] = b
		}
	}
	return textOf(turned)
}

// backward reads the text from its end on.
func backward(s string) string {
	b := []byte(s)
	slices.Reverse(b)
	return string(b)
}

// TestCountOfTurnedBoards: from whatever side it is looked at.
func TestCountOfTurnedBoards(t *testing.T) {
	some := 0
	for _, board := range randomBoards() {
		n := countOf(t, board)
		if n > 1 {
			some++
		}
		for _, turned := range []string{transposed(board), backward(board), transposed(backward(transposed(board)))} {
			if m := countOf(t, turned); m != n {
				t.Error(board, n, turned, m)
			}
		}
	}
	if some < 20 {
		t.Error("few boards have tilings:", some)
	}
}

// TestCountOfTwoApart: two boards that do not touch are covered each by itself.
func TestCountOfTwoApart(t *testing.T) {
	small := []string{"####/####/####/####", "####/#..#/#..#/####", ".##./####/####/.##.", "####/####/####/....", "####/####/###./....", "..../..../..../...."}
	for _, a := range small {
		for _, b := range small {
			var lines []string
			for _, line := range strings.Split(a, "/") {
				lines = append(lines, line+"....")
			}
			for _, line := range strings.Split(b, "/") {
				lines = append(lines, "...."+line)
			}
			board := strings.Join(lines, "/")
			if n, want := countOf(t, board), countOf(t, a)*countOf(t, b); n != want {
				t.Error(board, n, want)
			}
		}
	}
}

func TestFirst(t *testing.T) {
	for _, c := range []struct {
		board, want string
		err         api.Errno
	}{
		{".", ".", api.OK},
		{"./.", "./.", api.OK},
		{"#", "", api.ErrNone},
		{"#.#", "", api.ErrNone},
		{"#./.#", "", api.ErrNone},
		{".......#/#.......", "", api.ErrNone},
		{"##", "lr", api.OK},
		{"#/#", "u/d", api.OK},
		{"##/##", "lr/lr", api.OK},
		{"###/###", "lru/lrd", api.OK},
		{"##/##/##", "lr/lr/lr", api.OK},
		{"###/#.#/###", "lru/u.d/dlr", api.OK},
		{"###/##.", "", api.ErrNone},
		{"####/##..", "lrlr/lr..", api.OK},
		{"####/#..#", "ulru/d..d", api.OK},
		{".##./####/####/.##.", ".lr./lrlr/lrlr/.lr.", api.OK},
		{"####/####/####/###.", "", api.ErrNone},
		{full(8, 8, "#"), full(8, 4, "lr"), api.OK},
		{full(8, 7, "#"), strings.TrimSuffix(strings.Repeat("lrlrlru/lrlrlrd/", 4), "/"), api.OK},
		{full(8, 1, "#"), "u/d/u/d/u/d/u/d", api.OK},
		{full(7, 7, "#"), "", api.ErrNone},
		{full(8, 8, "."), full(8, 8, "."), api.OK},
	} {
		if s, err := First(c.board); err != c.err || s != c.want {
			t.Error(c, s, err)
		}
	}
	for _, s := range badBoards() {
		if tiling, err := First(s); tiling != "" || err != api.ErrArg {
			t.Error(s, tiling, err)
		}
	}
}

// TestFirstOfListed: of greater boards, the least of all tilings one by one.
func TestFirstOfListed(t *testing.T) {
	some := 0
	for _, board := range append(randomBoards(), full(6, 6, "#"), full(4, 8, "#"), full(8, 4, "#"), full(5, 8, "#"), full(8, 5, "#")) {
		n := countOf(t, board)
		s, err := First(board)
		if n == 0 {
			if s != "" || err != api.ErrNone {
				t.Error(board, s, err)
			}
			continue
		}
		if n > 20000 {
			if err != api.OK || CheckTiling(s) != api.OK || boardOf(s) != board {
				t.Error(board, s, err)
			}
			continue
		}
		some++
		list := tilingsOf(board)
		if err != api.OK || int64(len(list)) != n || s != list[0] {
			t.Error(board, s, err, n, len(list), list[0])
		}
	}
	if some < 30 {
		t.Error("few boards have tilings:", some)
	}
}

// TestBoardOfFirst: what is covered is what was to be covered.
func TestBoardOfFirst(t *testing.T) {
	for _, tiling := range randomTilings() {
		board := boardOf(tiling)
		s, err := First(board)
		if err != api.OK || s > tiling {
			t.Fatal(tiling, s, err)
		}
		if back, err := Board(s); err != api.OK || back != board {
			t.Fatal(board, s, back, err)
		}
		if n := countOf(t, board); n < 1 || n == 1 && s != tiling {
			t.Fatal(board, s, tiling, n)
		}
	}
}
