package domino

import (
	"runtime"
	"slices"
	"strings"
	"testing"

	"ferrers/api"
)

// input of any call: each takes of it what it needs.
type input struct {
	text    string
	at      api.Point
	order   int
	upright []bool
}

// answer of any call.
type answer struct {
	number int64
	text   string
	points []api.Point
	err    api.Errno
}

func (a answer) same(b answer) bool {
	return a.number == b.number && a.text == b.text && slices.Equal(a.points, b.points) && a.err == b.err
}

type call struct {
	name string
	do   func(in input) answer
}

func calls() []call {
	return []call{
		{"Check", func(in input) answer {
			return answer{err: Check(in.text)}
		}},
		{"CheckTiling", func(in input) answer {
			return answer{err: CheckTiling(in.text)}
		}},
		{"Board", func(in input) answer {
			s, err := Board(in.text)
			return answer{text: s, err: err}
		}},
		{"Count", func(in input) answer {
			n, err := Count(in.text)
			return answer{number: n, err: err}
		}},
		{"First", func(in input) answer {
			s, err := First(in.text)
			return answer{text: s, err: err}
		}},
		{"Flips", func(in input) answer {
			list, err := Flips(in.text)
			return answer{points: list, err: err}
		}},
		{"Flip", func(in input) answer {
			s, err := Flip(in.text, in.at)
			return answer{text: s, err: err}
		}},
		{"Aztec", func(in input) answer {
			s, err := Aztec(in.order)
			return answer{text: s, err: err}
		}},
		{"Needs", func(in input) answer {
			n, err := Needs(in.text)
			return answer{number: int64(n), err: err}
		}},
		{"Shuffle", func(in input) answer {
			s, err := Shuffle(in.text, in.upright)
			return answer{text: s, err: err}
		}},
	}
}

// inputs holds what each call can work with, and what it cannot.
func inputs() []input {
	texts := slices.Concat(badBoards(), badTilings(), randomBoards(), randomTilings())
	for n := range 4 {
		board := diamond(n + 1)
		texts = append(texts, board.text())
		for k, tiling := range tilingsOf(board.text()) {
			if k%5 < 2 {
				texts = append(texts, tiling)
			}
		}
	}
	numbers := append(farNumbers(), 0, 1, 2, 3, 4, 5, 0, 1, 0)
	var list []input
	for k, text := range texts {
		for many := range 8 {
			upright := make([]bool, many)
			for i := range upright {
				upright[i] = (k+i)%3 == 0
			}
			n := k + many
			list = append(list, input{text, api.Point{X: numbers[n%len(numbers)], Y: numbers[(n+n/7)%len(numbers)]}, numbers[k%len(numbers)], upright})
		}
		list = append(list, input{text: text})
	}
	return list
}

// TestInputsAreKeptApart: P2 of each call, and P1 in that each of them answers.
func TestInputsAreKeptApart(t *testing.T) {
	for _, c := range calls() {
		for k, in := range inputs() {
			given := in
			whole := append(slices.Clone(in.upright), k%2 == 0, true, false, true)
			given.upright = whole[:len(in.upright)]
			before := slices.Clone(whole)
			got := c.do(given)
			want := got
			want.points = slices.Clone(got.points)
			for i := range got.points[:cap(got.points)] {
				got.points[:cap(got.points)][i] = api.Point{X: -99, Y: -99}
			}
			if !slices.Equal(whole, before) {
				t.Fatal(c.name, "changed what was handed in:", in)
			}
			if again := c.do(in); !again.same(want) {
				t.Fatal(c.name, "kept something, or hung on spare room:", in, want, again)
			}
		}
	}
}

// TestErrorsComeAlone: with an error every other result is its zero value.
func TestErrorsComeAlone(t *testing.T) {
	for _, c := range calls() {
		errors, fine := map[api.Errno]int{}, 0
		for _, in := range inputs() {
			got := c.do(in)
			if got.err == api.OK {
				fine++
				continue
			}
			errors[got.err]++
			if got.number != 0 || got.text != "" || got.points != nil {
				t.Fatal(c.name, in, got)
			}
		}
		if fine == 0 || errors[api.ErrArg] == 0 {
			t.Error(c.name, "has had no error, or nothing else:", errors, fine)
		}
		for name, err := range map[string]api.Errno{"First": api.ErrNone, "Flip": api.ErrNone, "Needs": api.ErrLarge, "Shuffle": api.ErrLarge} {
			if name == c.name && errors[err] == 0 {
				t.Error(c.name, "has never answered", err)
			}
		}
	}
}

// TestLongTexts: P1 of texts that no board has the cells for.
func TestLongTexts(t *testing.T) {
	for _, text := range []string{"#", ".", "/", "#/", "lr", "lr/", "u/d/", "\x00", "é"} {
		long := strings.Repeat(text, 1<<22)
		for _, c := range calls() {
			if got := c.do(input{text: long, upright: make([]bool, 1<<20)}); got.err != api.ErrArg {
				t.Error(c.name, text, got.err)
			}
		}
	}
}

// TestNoGoroutineIsLeft: P1.
func TestNoGoroutineIsLeft(t *testing.T) {
	before := runtime.NumGoroutine()
	for _, c := range calls() {
		for _, in := range inputs() {
			c.do(in)
		}
	}
	if after := runtime.NumGoroutine(); after > before {
		t.Error(before, after)
	}
}
