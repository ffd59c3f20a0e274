package desk

import (
	"slices"
	"strings"
	"testing"

	"ferrers/api"
)

// someThings holds what each call can work with, and what it cannot.
var someThings = []string{
	"", "0", "1", "-1", "2", "1 2", "2 1", "1 1", "3 1", "3 3 1", "6 1", "7", "3 1 2", "2 3 1", "1 0 0", "2 0 0", "2 1 0", "0 0 1", "0 0", "1 1 0", "0 1 0", "1 3 2", "2 1 3", "3 2 1", "1 2 3", "4 1 3 2", "5 4 3 2 1", "4 4 4", "9 9 9 9",
	"40", "41", "39 1", "20 20", "99", "100", "1 99 50 99", "9999", "-9999 9999", "2 2 1 3 1 2", "4 2 7 1 3 6 5", "1 2 3 4 5 6 7 8 9 10",
	"1/2", "1/1", "2/1", "1 2/3", "1 3/2", "1 2/2", "1 1 2/2 3", "1 2 4/3 5", "1 3 5/2 4", "1 2 3/4 5 6", "1 2/3 4/5 6", "1/2/3/4", "1/2/100", "1 2/3 4 5",
	"0 1/1", "0 0 1/0 2/3", "0", "0 0/0", "0/0", "0 0 2/1", "0 1/2", "1/0", "0 1 1/0 2/1",
	"1 0/0 1", "0 1/1 0", "0 1 0/1 -1 1/0 1 0", "1 0 0/0 1 0/0 0 1", "0 0 1/0 1 0/1 0 0", "0 1 0/1 0 0/0 0 1", "1 0 0/0 0 1/0 1 0", "1 1/0 0", "1 0 0/0 1 0",
	"0 1 0 0/1 -1 1 0/0 1 -1 1/0 0 1 0", "0 0 1 0/0 1 -1 1/1 -1 1 0/0 1 0 0",
	"2/1 2", "1/1 2", "2/1 2/1 2 3", "1/1 2/1 2 3", "2/1 3/1 2 3", "3/1 3/1 2 3", "3/1 2/1 2 3", "2/2 3/1 2 3", "2/1 3/1 2 4/1 2 3 4",
	strings.TrimSuffix(strings.Repeat("1 ", 40), " "), strings.TrimSuffix(strings.Repeat("1/", 40), "/"),
	strings.TrimSuffix(strings.Repeat("2 ", 40), " "), "1 1 1 1 1 1 1 1 1 1/2 2 2 2 2 2 2 2 2 2/3 3 3 3 3 3 3 3 3 3/4 4 4 4 4 4 4 4 4 4/5",
}

// answered is a call with its names, and what comes of it.
type answered struct {
	call, a, b, text string
	err              api.Errno
}

// TestCalls: each call once or more, with answers that were worked out by hand or stand in the document.
func TestCalls(t *testing.T) {
	for _, x := range []answered{
		{"conj", "3 1", "", "2 1 1", api.OK}, {"conj", "", "", "", api.OK}, {"conj", "1 3", "", "", api.ErrArg}, {"conj", "41", "", "", api.ErrLarge}, {"conj", "1/1", "", "", api.ErrShape},
		{"merge", "3 3 1", "", "6 1", api.OK}, {"merge", "2", "", "", api.ErrShape}, {"merge", "0", "", "", api.ErrArg},
		{"split", "6 1", "", "3 3 1", api.OK}, {"split", "1 1", "", "", api.ErrShape}, {"split", "-1", "", "", api.ErrArg},
		{"inverse", "2 3 1", "", "3 1 2", api.OK}, {"inverse", "2 2", "", "", api.ErrArg}, {"inverse", "1/2", "", "", api.ErrShape},
		{"code", "3 1 2", "", "2 0 0", api.OK}, {"code", "2", "", "", api.ErrArg}, {"uncode", "2 0 0", "", "3 1 2", api.OK}, {"uncode", "0 1", "", "", api.ErrArg},
		{"fold", "3 1 2", "", "1 3 2", api.OK}, {"fold", "100", "", "", api.ErrArg}, {"unfold", "1 3 2", "", "3 1 2", api.OK}, {"unfold", "0", "", "", api.ErrArg},
		{"rounds", "2 1 3", "", "2 1 3", api.OK}, {"rounds", "3 1 2", "", "3 2 1", api.OK}, {"rounds", "1 1", "", "", api.ErrArg},
		{"unrounds", "3 2 1", "", "3 1 2", api.OK}, {"unrounds", "1 2", "", "1 2", api.OK}, {"unrounds", "3", "", "", api.ErrArg},
		{"pee", "3 1 2", "", "1 2/3", api.OK}, {"pee", "", "", "", api.OK}, {"pee", "0", "", "", api.ErrArg}, {"pee", "1/2", "", "", api.ErrShape},
		{"queue", "3 1 2", "", "1 3/2", api.OK}, {"queue", "", "", "", api.OK}, {"queue", "100", "", "", api.ErrArg}, {"queue", "1/2", "", "", api.ErrShape},
		{"longest", "3 1 2", "", "2 3", api.OK}, {"longest", "", "", "", api.OK}, {"longest", "-1", "", "", api.ErrArg},
		{"hooks", "2 1", "", "3 1/1", api.OK}, {"hooks", "", "", "", api.OK}, {"hooks", "1 2", "", "", api.ErrArg}, {"hooks", "40 1", "", "", api.ErrLarge}, {"hooks", "1/1", "", "", api.ErrShape},
		{"shape", "1 1 2/2 3", "", "3 2", api.OK}, {"shape", "", "", "", api.OK}, {"shape", "1/1", "", "", api.ErrArg},
		{"word", "1 1 2/2 3", "", "2 3 1 1 2", api.OK}, {"word", "", "", "", api.OK}, {"word", "2 1", "", "", api.ErrArg}, {"word", "0 1/1", "", "", api.ErrArg},
		{"standard", "1 1 2/2 3", "", "1 2 4/3 5", api.OK}, {"standard", "", "", "", api.OK}, {"standard", "1/2 3", "", "", api.ErrArg},
		{"turned", "1 2/3", "", "1 3/2", api.OK}, {"turned", "1 1", "", "", api.ErrShape}, {"turned", "2/1", "", "", api.ErrArg},
		{"rectify", "0 1/1", "", "1 1", api.OK}, {"rectify", "0 0/0", "", "", api.OK}, {"rectify", "1/0", "", "", api.ErrArg},
		{"evacuate", "1 2/3", "", "1 3/2", api.OK}, {"evacuate", "1 1", "", "", api.ErrShape}, {"evacuate", "0", "", "", api.ErrArg},
		{"promote", "1 2/3", "", "1 3/2", api.OK}, {"promote", "2", "", "", api.ErrShape}, {"promote", "2 1", "", "", api.ErrArg},
		{"demote", "1 3/2", "", "1 2/3", api.OK}, {"demote", "1 1", "", "", api.ErrShape}, {"demote", "", "", "", api.OK},
		{"triangle", "0 1 0/1 -1 1/0 1 0", "", "2/1 3/1 2 3", api.OK}, {"triangle", "1", "", "1", api.OK}, {"triangle", "", "", "", api.ErrArg},
		{"matrix", "2/1 3/1 2 3", "", "0 1 0/1 -1 1/0 1 0", api.OK}, {"matrix", "2", "", "", api.ErrArg}, {"matrix", "", "", "", api.ErrArg},
		{"gyrate", "1 0/0 1", "", "0 1/1 0", api.OK}, {"gyrate", "1 1", "", "", api.ErrArg},
		{"times", "2 3 1", "2 1 3", "3 2 1", api.OK}, {"times", "2 1 3", "2 3 1", "1 3 2", api.OK}, {"times", "", "", "", api.OK}, {"times", "1", "1 2", "", api.ErrShape}, {"times", "1", "3", "", api.ErrArg},
		{"back", "1 2/3", "1 3/2", "3 1 2", api.OK}, {"back", "1 3/2", "1 2/3", "2 3 1", api.OK}, {"back", "", "", "", api.OK}, {"back", "1", "1 2", "", api.ErrShape}, {"back", "1 1", "1 1", "", api.ErrShape},
		{"meet", "1 0/0 1", "0 1/1 0", "1 0/0 1", api.OK}, {"meet", "1", "1 0/0 1", "", api.ErrShape}, {"meet", "", "1", "", api.ErrArg},
		{"meet", "0 1 0/0 0 1/1 0 0", "0 0 1/1 0 0/0 1 0", "0 1 0/1 -1 1/0 1 0", api.OK}, {"join", "0 1 0/1 0 0/0 0 1", "1 0 0/0 0 1/0 1 0", "0 1 0/1 -1 1/0 1 0", api.OK},
		{"join", "1 0/0 1", "0 1/1 0", "0 1/1 0", api.OK}, {"join", "1", "1 0/0 1", "", api.ErrShape}, {"join", "2", "1", "", api.ErrArg},
	} {
		line := "x = " + x.call + " a"
		if slices.Contains(strings.Split(twoCalls, "|"), x.call) {
			line += " b"
		}
		follow(t, deskOf(t, "a = "+x.a, "b = "+x.b), said{line, x.text, x.err})
	}
}

// TestCallsOfOne holds each call of one thing against the package that it stands for.
func TestCallsOfOne(t *testing.T) {
	for _, name := range strings.Split(oneCalls, "|") {
		fine, wrong := 0, 0
		for _, a := range someThings {
			d := deskOf(t, "a = "+a, "keep = 5")
			text, err := answerOf(name, a, a)
			follow(t, d, said{"x = " + name + " a", text, err}, said{"show a", a, api.OK}, said{"show keep", "5", api.OK},
				said{"x = " + name + " a a", "", api.ErrSyntax}, said{"x = " + name + " nobody", "", api.ErrName})
			if err == api.OK {
				fine++
				follow(t, d, said{"show x", text, api.OK}, said{"a = " + name + " a", text, api.OK}, said{"show a", text, api.OK})
			} else {
				wrong++
				follow(t, d, said{"show x", "", api.ErrName}, said{"keep = " + name + " a", "", err}, said{"show keep", "5", api.OK})
			}
		}
		if fine < 8 || wrong < 8 {
			t.Error(name, "has had little to work with:", fine, wrong)
		}
	}
}

// TestCallsOfTwo holds each call of two things against the package that it stands for.
func TestCallsOfTwo(t *testing.T) {
	for _, name := range strings.Split(twoCalls, "|") {
		fine, wrong := 0, 0
		for _, a := range someThings {
			for _, b := range someThings {
				text, err := answerOf(name, a, b)
				if err == api.OK {
					fine++
				} else {
					wrong++
				}
				follow(t, deskOf(t, "a = "+a, "b = "+b), said{"x = " + name + " a b", text, err})
			}
			text, err := answerOf(name, a, a)
			follow(t, deskOf(t, "a = "+a), said{"x = " + name + " a a", text, err}, said{"x = " + name + " a", "", api.ErrSyntax},
				said{"x = " + name + " a nobody", "", api.ErrName}, said{"x = " + name + " nobody a", "", api.ErrName})
		}
		if fine < 20 || wrong < 20 {
			t.Error(name, "has had little to work with:", fine, wrong)
		}
	}
}

// TestWhatIsTurnedIsTurnedBack: at the desk, too.
func TestWhatIsTurnedIsTurnedBack(t *testing.T) {
	for _, pair := range [][2]string{
		{"conj", "conj"}, {"merge", "split"}, {"split", "merge"}, {"inverse", "inverse"}, {"code", "uncode"}, {"uncode", "code"}, {"fold", "unfold"}, {"unfold", "fold"},
		{"rounds", "unrounds"}, {"unrounds", "rounds"}, {"turned", "turned"}, {"evacuate", "evacuate"}, {"promote", "demote"}, {"demote", "promote"}, {"triangle", "matrix"}, {"matrix", "triangle"},
	} {
		for _, a := range someThings {
			d := deskOf(t, "a = "+a)
			if _, err := d.Do("x = " + pair[0] + " a"); err == api.OK {
				follow(t, d, said{"y = " + pair[1] + " x", a, api.OK})
			}
		}
	}
	for _, a := range someThings {
		d := deskOf(t, "a = "+a)
		if _, err := d.Do("p = pee a"); err == api.OK {
			d.Do("q = queue a")
			follow(t, d, said{"y = back p q", a, api.OK})
		}
	}
}
