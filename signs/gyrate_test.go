package signs

import (
	"slices"
	"strconv"
	"strings"
	"testing"

	"ferrers/api"
)

// gyrated turns the faces by P41's words.
func gyrated(t *testing.T, m [][]int) [][]int {
	t.Helper()
	drawn := drawnOf(t, m)
	for odd := range 2 {
		for i := range len(m) - 1 {
			for j := range len(m) - 1 {
				if (i+j)%2 != odd {
					continue
				}
				above, below := around(i, j)[1], around(i+1, j)[1]
				ahead, behind := around(i, j)[3], around(i, j+1)[3]
				switch [4]bool{drawn[above], drawn[below], drawn[ahead], drawn[behind]} {
				case [4]bool{true, true, false, false}:
					drawn[above], drawn[below], drawn[ahead], drawn[behind] = false, false, true, true
				case [4]bool{false, false, true, true}:
					drawn[above], drawn[below], drawn[ahead], drawn[behind] = true, true, false, false
				}
			}
		}
	}
	return ofDrawn(len(m), drawn)
}

// ofDrawn reads the matrix off its lines: at a place that is not 0 the two drawn lines lie in its row, or in its column.
func ofDrawn(n int, drawn map[line]bool) [][]int {
	m := square(n, 0)
	for i := range m {
		for j := range m {
			lines := around(i, j)
			sign := 1 - 2*((i+j)%2)
			switch {
			case drawn[lines[0]] && drawn[lines[1]]:
				m[i][j] = sign
			case drawn[lines[2]] && drawn[lines[3]]:
				m[i][j] = -sign
			}
		}
	}
	return m
}

func gyrateAnswered(t *testing.T, m [][]int) [][]int {
	t.Helper()
	other, err := Gyrate(m)
	if err != api.OK {
		t.Fatal(m, err)
	}
	return other
}

func TestGyrate(t *testing.T) {
	for _, c := range []struct{ m, want [][]int }{
		{inOrder(1), inOrder(1)},
		{inOrder(2), backward(inOrder(2))},
		{backward(inOrder(2)), inOrder(2)},
	} {
		if got := gyrateAnswered(t, c.m); !sameRows(got, c.want) {
			t.Error(c, got)
		}
	}
}

// TestGyrateByWords, of all small matrices and of some great ones.
func TestGyrateByWords(t *testing.T) {
	for _, m := range someMatrices() {
		if !sameRows(ofDrawn(len(m), drawnOf(t, m)), m) {
			t.Fatal("the lines are not those of the matrix:", m)
		}
		got, want := gyrateAnswered(t, m), gyrated(t, m)
		if !isMatrix(got) || !sameRows(got, want) {
			t.Fatal(m, got, want)
		}
	}
}

// oneBack lets what leads from end e to end f lead from e - 1 to f - 1.
func oneBack(links []int) []int {
	many := len(links)
	back := make([]int, many)
	for e, f := range links {
		back[(e+many-1)%many] = (f + many - 1) % many
	}
	return back
}

// TestGyrateTurnsLinks: WIELAND.
func TestGyrateTurnsLinks(t *testing.T) {
	for _, m := range append(smallMatrices(6), someMatrices()...) {
		links, turned := linksAnswered(t, m), linksAnswered(t, gyrateAnswered(t, m))
		if !slices.Equal(turned, oneBack(links)) {
			t.Fatal(m, links, turned)
		}
	}
}

// keyOf tells a matrix in a text.
func keyOf(m [][]int) string {
	var b strings.Builder
	for _, n := range slices.Concat(m...) {
		b.WriteString(strconv.Itoa(n) + " ")
	}
	return b.String()
}

// TestGyrateLosesNone: each matrix comes of one, so that each comes of itself at last.
func TestGyrateLosesNone(t *testing.T) {
	for n := 1; n <= 6; n++ {
		came := map[string]int{}
		list := matrices(n)
		for _, m := range list {
			came[keyOf(gyrateAnswered(t, m))]++
		}
		for _, m := range list {
			if came[keyOf(m)] != 1 {
				t.Fatal(m, came[keyOf(m)])
			}
		}
	}
}
