package desk

import (
	"fmt"
	"math/rand"
	"strings"
	"testing"

	"ferrers/api"
)

// said is a line, and what Do should answer.
type said struct {
	line, text string
	err        api.Errno
}

// follow does the lines one behind the other.
func follow(t *testing.T, d *Desk, lines ...said) {
	t.Helper()
	for _, x := range lines {
		if text, err := d.Do(x.line); text != x.text || err != x.err {
			t.Errorf("%q: %q %d, not %q %d", x.line, text, err, x.text, x.err)
		}
	}
}

// deskOf is a desk behind these lines, all of which must be right.
func deskOf(t *testing.T, lines ...string) *Desk {
	t.Helper()
	d := New()
	for _, line := range lines {
		if _, err := d.Do(line); err != api.OK {
			t.Fatalf("%q: %d", line, err)
		}
	}
	return d
}

// nameOf is another name for each number.
func nameOf(n int) string {
	return strings.Repeat(string(rune('a'+n%26)), n/26+1)
}

// state tells all things of a desk, as Do tells them.
func state(d *Desk) string {
	names, _ := d.Do("names")
	all := ""
	for _, name := range strings.Fields(names) {
		text, err := d.Do("show " + name)
		all += fmt.Sprintln(name, text, err)
	}
	return all
}

func TestLines(t *testing.T) {
	follow(t, New(),
		said{"names", "", api.OK}, said{"undo", "", api.ErrNone},
		said{"show a", "", api.ErrName}, said{"drop a", "", api.ErrName},
		said{"b = 3 1 2", "3 1 2", api.OK}, said{"a = 1 2/-3", "1 2/-3", api.OK},
		said{"ab = ", "", api.OK}, said{"names", "a ab b", api.OK},
		said{"show a", "1 2/-3", api.OK}, said{"show ab", "", api.OK}, said{"show b", "3 1 2", api.OK},
		said{"a = 0", "0", api.OK}, said{"show a", "0", api.OK}, said{"names", "a ab b", api.OK},
		said{"drop a", "", api.OK}, said{"show a", "", api.ErrName}, said{"names", "ab b", api.OK},
		said{"drop a", "", api.ErrName}, said{"c = inverse b", "2 3 1", api.OK},
		said{"c = times c b", "1 2 3", api.OK}, said{"show c", "1 2 3", api.OK},
		said{"b = pee b", "1 2/3", api.OK}, said{"names", "ab b c", api.OK})
}

// TestWordsAsNames: a thing may have the name of a call, or of a word that lines begin with.
func TestWordsAsNames(t *testing.T) {
	follow(t, New(),
		said{"show = 1", "1", api.OK}, said{"drop = 2 1", "2 1", api.OK}, said{"names = 3", "3", api.OK},
		said{"undo = 4", "4", api.OK}, said{"conj = conj drop", "2 1", api.OK}, said{"conj = conj conj", "2 1", api.OK},
		said{"times = times drop conj", "1 2", api.OK},
		said{"names", "conj drop names show times undo", api.OK}, said{"show show", "1", api.OK},
		said{"show undo", "4", api.OK}, said{"drop drop", "", api.OK}, said{"show drop", "", api.ErrName},
		said{"drop names", "", api.OK}, said{"names", "conj show times undo", api.OK},
		said{"undo", "", api.OK}, said{"names", "conj names show times undo", api.OK})
}

// TestSyntax: lines that are none of P47's, on a desk that has a and b.
func TestSyntax(t *testing.T) {
	lines := []string{
		"", " ", "=", " = ", " = 1", "a", "a =", "a=", "a=1", "a= 1", "a =1", "a  = 1", "a =  1", " a = 1", "a = 1 ",
		"a = 1  2", "a = 1\t2", "a\t= 1", "a = 1\n", "a = 1\r", "a = \n", "a = 1\nb = 2", "\na = 1", "a = 1\x00", "a == 1",
		"a = = 1", "a = 1 = 1", "a = b", "a = a b", "a = 1 a", "a = 1/a", "a = show b", "a = names", "a = undo", "a = b = 1",
		"names ", " names", "Names", "name", "names a", "names\n", "undo ", " undo", "UNDO", "undo 1", "undo a", "undo\n", "undos",
		"show", "show ", "show  a", "show a ", "show a b", " show a", "Show a", "show A", "show 1", "show abcdefghijk", "show a\n", "show =", "show é", "showa",
		"drop", "drop ", "drop  a", "drop a ", "drop a b", " drop a", "Drop a", "drop A", "drop 1", "drop abcdefghijk", "drop a\n", "drop =", "dropa",
		"abcdefghijk = 1", "A = 1", "a1 = 1", "1 = 1", "a-b = 1", "a b = 1", "é = 1", "{ = 1", "` = 1",
		"a = +1", "a = -0", "a = 00", "a = 01", "a = -01", "a = 1_0", "a = 0x1", "a = 1e1", "a = 1.0", "a = --1", "a = -", "a = - 1", "a = ١",
		"a = 10000", "a = -10000", "a = 99999999999999999999", "a = -99999999999999999999", "a = 1 2 10000", "a = 1/10000",
		"a = /", "a = 1/", "a = /1", "a = 1//1", "a = 1 /1", "a = 1/ 1", "a = / ", "a = 1,1", "a = 1;1",
		"a = conj", "a = conj ", "a = conj  b", "a = conj b ", "a =  conj b", "a = conj b b", "a = conj b b b", "a = Conj b", "a = conjb", "a = con b",
		"a = conj 1", "a = conj 3 1", "a = conj B", "a = conj abcdefghijk", "a = conj b\n", "a = conj (b)", "a = conj b/b", "conj b", "conj = conj", "A = conj b",
		"a = times", "a = times b", "a = times b ", "a = times b  b", "a = times  b b", "a = times b b ", "a = times b b b", "a = times b B", "a = times B b", "a = times b 1",
		"a = meet b", "a = join b", "a = back b", "a = shape b b", "a = matrix b b", "a = P b", "a = q b", "a = fromtriangle b", "a = lucky b",
		"a = nope", "a = nope b", "a = nope b b", "a = nope nope", "a =  b", "nonsense", "#", "a := 1",
		// ErrSyntax also where names stand in the line that no thing has.
		"a = nope q", "a = conj q q", "a = times q", "show q q", "drop q q", "a = conj q Q", "a = times q 1", "a = b q",
	}
	for _, line := range lines {
		d := deskOf(t, "a = 7", "b = 1")
		follow(t, d, said{line, "", api.ErrSyntax}, said{"names", "a b", api.OK}, said{"show a", "7", api.OK}, said{"show b", "1", api.OK})
		if d.Save() != "a = 7\nb = 1\n" {
			t.Errorf("%q: %q", line, d.Save())
		}
	}
}

// TestShortLines holds all short lines of some bytes against the model.
func TestShortLines(t *testing.T) {
	const bytes = "a =10/-\n"
	var line []byte
	var longer func()
	longer = func() {
		d, m := New(), newModel()
		text, err := d.Do(string(line))
		if wantText, wantErr := m.do(string(line)); text != wantText || err != wantErr || d.Save() != m.save() {
			t.Fatalf("%q: %q %d, not %q %d", line, text, err, wantText, wantErr)
		}
		if len(line) == 7 {
			return
		}
		for k := range len(bytes) {
			// Most lines that do not begin as one of a thing must are much the same.
			if n := len(line); n < 4 && n > 1 && bytes[k] != "a = "[n] {
				continue
			}
			line = append(line, bytes[k])
			longer()
			line = line[:len(line)-1]
		}
	}
	longer()
}

// TestErrorsInOrder: ErrName ahead of ErrShape, that ahead of the call's own error.
func TestErrorsInOrder(t *testing.T) {
	follow(t, deskOf(t, "rows = 1 1/1", "row = 1 1", "perm = 2 1", "matrix = 1"),
		said{"x = conj nobody", "", api.ErrName}, said{"x = conj rows", "", api.ErrShape}, said{"x = inverse row", "", api.ErrArg},
		said{"x = merge perm", "", api.ErrShape}, said{"x = merge row", "2", api.OK},
		said{"x = times rows nobody", "", api.ErrName}, said{"x = times nobody rows", "", api.ErrName},
		said{"x = times row rows", "", api.ErrShape}, said{"x = times rows row", "", api.ErrShape}, said{"x = times rows rows", "", api.ErrShape},
		said{"x = times row perm", "", api.ErrArg}, said{"x = times perm row", "", api.ErrArg}, said{"x = times perm matrix", "", api.ErrShape},
		said{"x = meet nobody rows", "", api.ErrName}, said{"x = meet rows nobody", "", api.ErrName},
		said{"x = meet rows matrix", "", api.ErrArg}, said{"x = meet matrix rows", "", api.ErrArg}, said{"x = meet matrix matrix", "1", api.OK},
		said{"x = back matrix perm", "", api.ErrArg}, said{"x = back matrix row", "", api.ErrShape}, said{"names", "matrix perm row rows x", api.OK})
}

// TestLongLines: P47's 400 bytes.
func TestLongLines(t *testing.T) {
	right := "aaa = " + strings.Repeat("-9999 ", 39) + "-9999/" + strings.Repeat("-9999 ", 25) + "-99"
	if len(right) != 399 {
		t.Fatal(len(right))
	}
	follow(t, New(), said{right, right[6:], api.OK}, said{right + "9", right[6:] + "9", api.OK}, said{right + "99", "", api.ErrLarge})
	long := strings.Repeat("x", 401)
	follow(t, New(), said{long[:400], "", api.ErrSyntax}, said{long, "", api.ErrLarge}, said{strings.Repeat("1 ", 1<<20), "", api.ErrLarge},
		said{"names" + strings.Repeat(" ", 396), "", api.ErrLarge}, said{"names" + strings.Repeat(" ", 395), "", api.ErrSyntax},
		said{"show " + long[:395], "", api.ErrSyntax}, said{"show " + long[:396], "", api.ErrLarge}, said{"names", "", api.OK})
}

// TestFiftyThings: with 50 things no new name comes, but all else goes on.
func TestFiftyThings(t *testing.T) {
	d := New()
	for n := range 50 {
		follow(t, d, said{nameOf(n) + " = 1", "1", api.OK})
	}
	kept := d.Save()
	follow(t, d, said{"new = 1", "", api.ErrLarge}, said{"new = ", "", api.ErrLarge}, said{"new = conj a", "", api.ErrLarge},
		said{"new = times a b", "", api.ErrLarge}, said{"show new", "", api.ErrName}, said{"drop new", "", api.ErrName},
		said{"new = conj new", "", api.ErrName}, said{"new = times a new", "", api.ErrName}, said{"new = nope a", "", api.ErrSyntax},
		said{"new = 1 ", "", api.ErrSyntax})
	if d.Save() != kept {
		t.Error(d.Save())
	}
	follow(t, d, said{"a = 2 1", "2 1", api.OK}, said{"b = conj a", "2 1", api.OK}, said{"new = merge b", "", api.ErrShape},
		said{"new = inverse a", "", api.ErrLarge}, said{"drop b", "", api.OK}, said{"new = inverse a", "2 1", api.OK},
		said{"b = 1", "", api.ErrLarge}, said{"undo", "", api.OK}, said{"b = 1", "1", api.OK}, said{"new = 1", "", api.ErrLarge},
		said{"undo", "", api.OK}, said{"undo", "", api.OK}, said{"show b", "2 1", api.OK}, said{"new = 1", "", api.ErrLarge})
}

// TestTwoHundredLines: behind 200 lines nothing changes any more, till one is undone.
func TestTwoHundredLines(t *testing.T) {
	d := deskOf(t, "a = 1 2", "rows = 1/2")
	for n := range 197 {
		follow(t, d, said{fmt.Sprint("b = ", n), fmt.Sprint(n), api.OK}, said{"names", "a b rows", api.OK},
			said{"b = nope a", "", api.ErrSyntax}, said{"show b", fmt.Sprint(n), api.OK})
	}
	follow(t, d, said{"c = 5", "5", api.OK})
	kept := d.Save()
	if strings.Count(kept, "\n") != 200 {
		t.Fatal(kept)
	}
	for range 2 {
		follow(t, d, said{"b = 1", "", api.ErrLarge}, said{"b = 196", "", api.ErrLarge}, said{"new = 1", "", api.ErrLarge},
			said{"drop a", "", api.ErrLarge}, said{"b = inverse a", "", api.ErrLarge}, said{"b = times a a", "", api.ErrLarge},
			said{"drop new", "", api.ErrName}, said{"b = inverse new", "", api.ErrName}, said{"b = inverse rows", "", api.ErrShape},
			said{"b = conj a", "", api.ErrArg}, said{"b = nope a", "", api.ErrSyntax}, said{"b = 1 ", "", api.ErrSyntax},
			said{"names", "a b c rows", api.OK}, said{"show a", "1 2", api.OK}, said{"show b", "196", api.OK}, said{"show new", "", api.ErrName})
		if d.Save() != kept {
			t.Fatal(d.Save())
		}
		follow(t, d, said{"undo", "", api.OK}, said{"show c", "", api.ErrName}, said{"c = 5", "5", api.OK})
	}
	for range 200 {
		follow(t, d, said{"undo", "", api.OK})
	}
	follow(t, d, said{"undo", "", api.ErrNone}, said{"names", "", api.OK}, said{"a = 1", "1", api.OK}, said{"names", "a", api.OK})
}

// TestSameThingAgain: a thing in the place of its like is a change as any other.
func TestSameThingAgain(t *testing.T) {
	d := deskOf(t, "a = 1", "a = 1", "b = inverse a", "a = inverse b")
	if d.Save() != "a = 1\na = 1\nb = inverse a\na = inverse b\n" {
		t.Error(d.Save())
	}
	follow(t, d, said{"undo", "", api.OK}, said{"show a", "1", api.OK}, said{"undo", "", api.OK}, said{"undo", "", api.OK},
		said{"show a", "1", api.OK}, said{"undo", "", api.OK}, said{"show a", "", api.ErrName}, said{"undo", "", api.ErrNone})
}

// TestUndo: what is undone was never there.
func TestUndo(t *testing.T) {
	lines := []string{
		"a = 3 1 2", "b = pee a", "a = fold a", "drop b", "b = ", "c = conj b", "a = 1", "drop a", "drop c", "a = inverse b", "b = 2/1", "drop b",
	}
	d := New()
	states, saves := []string{state(d)}, []string{d.Save()}
	for _, line := range lines {
		if _, err := d.Do(line); err != api.OK {
			t.Fatal(line, err)
		}
		states, saves = append(states, state(d)), append(saves, d.Save())
	}
	for range 2 {
		for k := len(lines) - 1; k >= 0; k-- {
			follow(t, d, said{"undo", "", api.OK}, said{"show nobody", "", api.ErrName}, said{"drop nobody", "", api.ErrName})
			if state(d) != states[k] || d.Save() != saves[k] {
				t.Error(lines[k], state(d), d.Save())
			}
			for _, line := range lines[k:] {
				d.Do(line)
			}
			if state(d) != states[len(lines)] || d.Save() != saves[len(lines)] {
				t.Error(lines[k:], state(d), d.Save())
			}
			for range lines[k:] {
				d.Do("undo")
			}
		}
		follow(t, d, said{"undo", "", api.ErrNone}, said{"undo", "", api.ErrNone}, said{"names", "", api.OK})
		for _, line := range lines {
			d.Do(line)
		}
	}
}

// randomLine is most often a right one, of few names, so that most of them stand for something.
func randomLine(r *rand.Rand) string {
	names := strings.Fields("a b c d e f show undo names drop conj aaaaaaaaaa")
	name := func() string { return names[r.Intn(len(names))] }
	ones, twos := strings.Split(oneCalls, "|"), strings.Split(twoCalls, "|")
	line := ""
	switch k := r.Intn(20); {
	case k < 1:
		line = "names"
	case k < 4:
		line = "undo"
	case k < 5:
		line = "show " + name()
	case k < 6:
		line = "drop " + name()
	case k < 12:
		line = name() + " = " + someThings[r.Intn(len(someThings))]
	case k < 17:
		line = name() + " = " + ones[r.Intn(len(ones))] + " " + name()
	default:
		line = name() + " = " + twos[r.Intn(len(twos))] + " " + name() + " " + name()
	}
	if r.Intn(8) > 0 {
		return line
	}
	bytes := []byte(line)
	bytes[r.Intn(len(bytes))] = "az 01/-=\n"[r.Intn(9)]
	return string(bytes)
}

// TestRandomLines holds long work at a desk against the model, with some desks loaded on the way.
func TestRandomLines(t *testing.T) {
	r := rand.New(rand.NewSource(1))
	errors := map[api.Errno]int{}
	for range 40 {
		d, m := New(), newModel()
		for range 600 {
			line := randomLine(r)
			text, err := d.Do(line)
			wantText, wantErr := m.do(line)
			if text != wantText || err != wantErr {
				t.Fatalf("%q: %q %d, not %q %d, behind\n%s", line, text, err, wantText, wantErr, m.save())
			}
			errors[err]++
			if d.Save() != m.save() {
				t.Fatalf("%q: %q, not %q", line, d.Save(), m.save())
			}
			if r.Intn(20) == 0 {
				loaded, fault := Load(d.Save())
				if fault != (api.Fault{}) || state(loaded) != state(d) {
					t.Fatal(fault, d.Save())
				}
				d = loaded
			}
		}
	}
	for err := api.OK; err <= api.ErrName; err++ {
		if errors[err] < 30 {
			t.Error(err, "was met", errors[err], "times")
		}
	}
}
