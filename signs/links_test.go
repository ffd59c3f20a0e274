package signs

import (
	"slices"
	"testing"

	"ferrers/api"
)

// line in a row, left of the place in that row and column, or in a column, above the place.
type line struct {
	upright     bool
	row, column int
}

// around are the left, the right, the upper and the lower line of a place.
func around(i, j int) [4]line {
	return [4]line{{false, i, j}, {false, i, j + 1}, {true, i, j}, {true, i + 1, j}}
}

// comeIn tells by P40's words which of the four lines of a place come in.
func comeIn(m [][]int, i, j int) [4]bool {
	h, v := 0, 0
	for k := range j {
		h += m[i][k]
	}
	for k := range i {
		v += m[k][j]
	}
	return [4]bool{h == 0, h+m[i][j] == 1, v == 1, v+m[i][j] == 0}
}

// drawnOf tells by P40's words which lines are drawn, all places being asked.
func drawnOf(t *testing.T, m [][]int) map[line]bool {
	t.Helper()
	drawn := map[line]bool{}
	for i := range m {
		for j := range m {
			many := 0
			for k, in := range comeIn(m, i, j) {
				is := in == ((i+j)%2 == 0)
				at := around(i, j)[k]
				if said, met := drawn[at]; met && said != is {
					t.Fatal("two places say otherwise of a line:", m, at)
				}
				drawn[at] = is
				if is {
					many++
				}
			}
			if many != 2 {
				t.Fatal("not two lines at a place:", m, i, j)
			}
		}
	}
	return drawn
}

// endsOf are the ends, by P40's words.
func endsOf(t *testing.T, n int, drawn map[line]bool) []line {
	t.Helper()
	var outer, ends []line
	for i := range n {
		outer = append(outer, around(i, 0)[0])
	}
	for j := range n {
		outer = append(outer, around(n-1, j)[3])
	}
	for i := range n {
		outer = append(outer, around(n-1-i, n-1)[1])
	}
	for j := range n {
		outer = append(outer, around(0, n-1-j)[2])
	}
	for k, at := range outer {
		if drawn[at] != (k%2 == 0) {
			t.Fatal("an outer line is drawn, or is not:", n, k)
		}
		if k%2 == 0 {
			ends = append(ends, at)
		}
	}
	return ends
}

// linksOf: lines that meet at a place get one mark, till nothing changes.
func linksOf(t *testing.T, m [][]int) []int {
	t.Helper()
	drawn := drawnOf(t, m)
	marks := map[line]int{}
	for at, is := range drawn {
		if is {
			marks[at] = len(marks)
		}
	}
	for changed := true; changed; {
		changed = false
		for i := range m {
			for j := range m {
				four := around(i, j)
				both := slices.DeleteFunc(four[:], func(at line) bool { return !drawn[at] })
				least := min(marks[both[0]], marks[both[1]])
				changed = changed || marks[both[0]] != marks[both[1]]
				marks[both[0]], marks[both[1]] = least, least
			}
		}
	}
	ends := endsOf(t, len(m), drawn)
	links := make([]int, len(ends))
	for e, at := range ends {
		links[e] = -1
		for f, other := range ends {
			if f != e && marks[at] == marks[other] {
				links[e] = f
			}
		}
	}
	return links
}

func linksAnswered(t *testing.T, m [][]int) []int {
	t.Helper()
	links, err := Links(m)
	if err != api.OK {
		t.Fatal(m, err)
	}
	return links
}

func TestLinks(t *testing.T) {
	for _, c := range []struct {
		m    [][]int
		want []int
	}{
		{inOrder(1), []int{1, 0}},
		{inOrder(2), []int{3, 2, 1, 0}},
		{backward(inOrder(2)), []int{1, 0, 3, 2}},
	} {
		if got := linksAnswered(t, c.m); !slices.Equal(got, c.want) {
			t.Error(c, got)
		}
	}
}

// TestLinksByWords, of all small matrices and of some great ones; the links never cross.
func TestLinksByWords(t *testing.T) {
	for _, m := range someMatrices() {
		links := linksAnswered(t, m)
		if !slices.Equal(links, linksOf(t, m)) {
			t.Fatal(m, links, linksOf(t, m))
		}
		for e, f := range links {
			if f == e || links[f] != e {
				t.Fatal(m, links)
			}
			for k := min(e, f) + 1; k < max(e, f); k++ {
				if links[k] < min(e, f) || links[k] > max(e, f) {
					t.Fatal("two links cross:", m, links)
				}
			}
		}
	}
}

// patterns counts the matrices of n rows by their Links.
func patterns(t *testing.T, n int) map[[14]int]int {
	t.Helper()
	counts := map[[14]int]int{}
	for _, m := range matrices(n) {
		var key [14]int
		copy(key[:], linksAnswered(t, m))
		counts[key]++
	}
	return counts
}

// TestLinksAreCounted: there are as many patterns as Catalan has it, and so many matrices of each.
func TestLinksAreCounted(t *testing.T) {
	for n, want := range []map[int]int{
		1: {1: 1}, 2: {1: 2}, 3: {1: 3, 2: 2}, 4: {1: 4, 3: 8, 7: 2}, 5: {1: 5, 4: 10, 6: 10, 14: 5, 17: 10, 42: 2},
	} {
		if n == 0 {
			continue
		}
		got := map[int]int{}
		for _, many := range patterns(t, n) {
			got[many]++
		}
		for many, often := range want {
			if got[many] != often || len(got) != len(want) {
				t.Error(n, got, want)
			}
		}
	}
}

// TestLinksInBalance: RAZUMOV and STROGANOV, proved by CANTINI and SPORTIELLO: if two neighbouring ends are linked, and
// those to which they led, what comes of it for all neighbours has each pattern 2n times as often as before.
func TestLinksInBalance(t *testing.T) {
	for n := 2; n <= 6; n++ {
		counts := patterns(t, n)
		after := map[[14]int]int{}
		for key, many := range counts {
			for e := range 2 * n {
				f := (e + 1) % (2 * n)
				next := key
				if a, b := key[e], key[f]; a != f {
					next[a], next[b], next[e], next[f] = b, a, f, e
				}
				after[next] += many
			}
		}
		if len(after) != len(counts) {
			t.Error(n, len(after), len(counts))
		}
		for key, many := range after {
			if many != 2*n*counts[key] {
				t.Error(n, key, many, counts[key])
			}
		}
	}
}
