package paths

import (
	"math"
	"math/big"
	"math/rand"
	"slices"
	"strings"
	"testing"

	"ferrers/api"
)

// texts lists all texts of so many brackets, in order.
func texts(length int) []string {
	list := []string{""}
	for range length {
		var longer []string
		for _, text := range list {
			longer = append(longer, text+"(", text+")")
		}
		list = longer
	}
	return list
}

// opens tells how many more open than close.
func opens(text string) int {
	return strings.Count(text, "(") - strings.Count(text, ")")
}

// rights lists all right texts of so many pairs, in order: those of all texts that the words let through.
func rights(pairs int) []string {
	return slices.DeleteFunc(texts(2*pairs), func(text string) bool {
		for i := range text {
			if opens(text[:i]) < 0 {
				return true
			}
		}
		return opens(text) != 0
	})
}

// nested is ((..)), flat is ()()..
func nested(pairs int) string { return strings.Repeat("(", pairs) + strings.Repeat(")", pairs) }
func flat(pairs int) string   { return strings.Repeat("()", pairs) }

func catalanOf(t *testing.T, n int) int64 {
	t.Helper()
	count, err := Catalan(n)
	if err != api.OK {
		t.Fatal(n, err)
	}
	return count
}

// TestCatalan: by the formula, and by where the first bracket closes.
func TestCatalan(t *testing.T) {
	for n, want := range []int64{1, 1, 2, 5, 14, 42, 132, 429, 1430, 4862, 16796, 58786, 208012} {
		if got := catalanOf(t, n); got != want {
			t.Error(n, got, want)
		}
	}
	for n := range 31 {
		want := new(big.Int).Binomial(int64(2*n), int64(n))
		want.Div(want, big.NewInt(int64(n+1)))
		if got := catalanOf(t, n); big.NewInt(got).Cmp(want) != 0 {
			t.Error(n, got, want)
		}
		sum := int64(0)
		for inside := range n {
			sum += catalanOf(t, inside) * catalanOf(t, n-1-inside)
		}
		if got := catalanOf(t, n); n > 0 && got != sum {
			t.Error(n, got, sum)
		}
	}
	if got := catalanOf(t, 30); got != 3814986502092304 {
		t.Error(got)
	}
	for _, n := range []int{-1, 31, 32, 60, -30, math.MinInt, math.MaxInt} {
		if count, err := Catalan(n); count != 0 || err != api.ErrArg {
			t.Error(n, count, err)
		}
	}
}

// TestRightTextsAreListed: counted, ranked and told by their ranks, one by one.
func TestRightTextsAreListed(t *testing.T) {
	for pairs := range 9 {
		list := rights(pairs)
		if got := catalanOf(t, pairs); got != int64(len(list)) {
			t.Error(pairs, got, len(list))
		}
		for i, want := range list {
			if rank, err := Rank(want); err != api.OK || rank != int64(i) {
				t.Error(want, rank, err, i)
			}
			if text, err := Unrank(pairs, int64(i)); err != api.OK || text != want {
				t.Error(pairs, i, text, err, want)
			}
		}
	}
}

// TestTextsThatAreNotRight: all others of brackets alone.
func TestTextsThatAreNotRight(t *testing.T) {
	for length := range 13 {
		var list []string
		if length%2 == 0 {
			list = rights(length / 2)
		}
		for _, text := range texts(length) {
			want := api.ErrArg
			if slices.Contains(list, text) {
				want = api.OK
			}
			if rank, err := Rank(text); err != want || err != api.OK && rank != 0 {
				t.Error(text, rank, err, want)
			}
		}
	}
}

// TestLongTexts: up to 60 bytes, from the first to the last.
func TestLongTexts(t *testing.T) {
	source := rand.New(rand.NewSource(31))
	for pairs := 1; pairs <= 30; pairs++ {
		all := catalanOf(t, pairs)
		ranks := []int64{0, all / 2, all - 1}
		for range 200 {
			ranks = append(ranks, source.Int63n(all))
		}
		for _, rank := range ranks {
			text, err := Unrank(pairs, rank)
			if err != api.OK || len(text) != 2*pairs {
				t.Fatal(pairs, rank, text, err)
			}
			if back, err := Rank(text); err != api.OK || back != rank {
				t.Fatal(text, back, err, rank)
			}
			if next, err := Unrank(pairs, rank+1); rank < all-1 && (err != api.OK || next != after(text)) {
				t.Fatal(pairs, rank, text, next, err)
			}
		}
		if first, _ := Unrank(pairs, 0); first != nested(pairs) {
			t.Error(pairs, first)
		}
		if last, _ := Unrank(pairs, all-1); last != flat(pairs) {
			t.Error(pairs, last)
		}
	}
}

// after is the next right text: the last bracket that opens, and could close there, is closed, and the rest is the first there is.
func after(text string) string {
	for i := len(text) - 1; i >= 0; i-- {
		if text[i] == '(' && opens(text[:i]) > 0 {
			begun := text[:i] + ")"
			left := len(text) - len(begun)
			opening := (left - opens(begun)) / 2
			return begun + strings.Repeat("(", opening) + strings.Repeat(")", left-opening)
		}
	}
	return ""
}

func TestErrorsOfRank(t *testing.T) {
	for _, text := range []string{
		"(", ")", ")(", "())", "(()", "())(", "x", " ", "()x", "x()", "(x)", "() ", " ()", "[]", "{}", "<>", "()\n", "()\x00", "(\x00)", "（）", "(é)", "\xff", "((", "))",
		nested(29) + "((", nested(29) + ")(", "x" + nested(29) + "x", nested(29) + "  ", strings.Repeat("(", 60), strings.Repeat(")", 60), strings.Repeat("(", 59), strings.Repeat("é", 30),
	} {
		if rank, err := Rank(text); rank != 0 || err != api.ErrArg {
			t.Error(text, rank, err)
		}
	}
	for _, text := range wideTexts() {
		if rank, err := Rank(text); rank != 0 || err != api.ErrLarge {
			t.Error(len(text), rank, err)
		}
	}
}

// wideTexts have more than 60 bytes.
func wideTexts() []string {
	return []string{
		nested(30) + "(", nested(30) + ")", nested(31), flat(31), strings.Repeat("(", 61), strings.Repeat(")", 61),
		strings.Repeat("x", 61), strings.Repeat(" ", 62), nested(30) + "x", strings.Repeat("é", 31), nested(1000), strings.Repeat("(", 1<<20),
	}
}

func TestErrorsOfUnrank(t *testing.T) {
	check := func(pairs int, rank int64) {
		t.Helper()
		if text, err := Unrank(pairs, rank); text != "" || err != api.ErrArg {
			t.Error(pairs, rank, text, err)
		}
	}
	for _, pairs := range []int{-1, 31, 32, 60, -30, math.MinInt, math.MaxInt} {
		for _, rank := range []int64{0, 1, -1, math.MinInt64, math.MaxInt64} {
			check(pairs, rank)
		}
	}
	for pairs := range 31 {
		all := catalanOf(t, pairs)
		for _, rank := range []int64{-1, all, all + 1, 2 * all, math.MinInt64, math.MaxInt64} {
			check(pairs, rank)
		}
	}
}

// mayBegin tells whether, read from the byte i on and round, more have opened than closed after each byte.
func mayBegin(s string, i int) bool {
	for length := 1; length <= len(s); length++ {
		read := (s + s)[i : i+length]
		if opens(read) <= 0 {
			return false
		}
	}
	return true
}

func TestTurns(t *testing.T) {
	for _, c := range []struct {
		s    string
		want []int
	}{
		{"", nil},
		{"(", []int{0}},
		{")", nil},
		{"()", nil},
		{")(", nil},
		{"((", []int{0, 1}},
		{"(()", []int{0}},
		{"()(", []int{2}},
		{")((", []int{1}},
		{"((()", []int{0, 1}},
		{"()((", []int{2, 3}},
		{"())((", []int{3}},
		{"(()((", []int{0, 3, 4}},
		{nested(30), nil},
		{strings.Repeat("(", 31) + strings.Repeat(")", 29), []int{0, 1}},
		{flat(29) + "((", []int{58, 59}},
		{flat(29) + "(", []int{58}},
		{strings.Repeat("(", 60), inOrder(60)},
		{strings.Repeat(")", 60), nil},
	} {
		if places, err := Turns(c.s); err != api.OK || !slices.Equal(places, c.want) {
			t.Error(c.s, places, err, c.want)
		}
	}
}

// inOrder lists the numbers from 0 on.
func inOrder(n int) []int {
	var list []int
	for i := range n {
		list = append(list, i)
	}
	return list
}

// turnsHeld holds a text's places against the words, and their number against how many more open (DVORETZKY, MOTZKIN).
func turnsHeld(t *testing.T, s string) {
	t.Helper()
	var want []int
	for i := range len(s) {
		if mayBegin(s, i) {
			want = append(want, i)
		}
	}
	if len(want) != max(opens(s), 0) {
		t.Fatal(s, want)
	}
	if places, err := Turns(s); err != api.OK || !slices.Equal(places, want) {
		t.Fatal(s, places, err, want)
	}
}

func TestTurnsOfAllTexts(t *testing.T) {
	for length := range 14 {
		for _, s := range texts(length) {
			turnsHeld(t, s)
		}
	}
	source := rand.New(rand.NewSource(32))
	for round := range 500 {
		s := make([]byte, 1+source.Intn(60))
		for i := range s {
			s[i] = ")((("[source.Intn(1+round%4)]
		}
		turnsHeld(t, string(s))
	}
}

func TestErrorsOfTurns(t *testing.T) {
	for _, text := range []string{
		"x", " ", "()x", "x((", "(x(", "(( ", "[(", "((\n", "((\x00", "（", "(é", "\xff(", strings.Repeat("(", 59) + "x", "x" + strings.Repeat("(", 59), strings.Repeat("é", 30),
	} {
		if places, err := Turns(text); places != nil || err != api.ErrArg {
			t.Error(text, places, err)
		}
	}
	for _, text := range wideTexts() {
		if places, err := Turns(text); places != nil || err != api.ErrLarge {
			t.Error(len(text), places, err)
		}
	}
}
