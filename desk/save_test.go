package desk

import (
	"fmt"
	"strings"
	"testing"

	"ferrers/api"
)

func TestSave(t *testing.T) {
	d := New()
	for _, x := range []struct{ line, saved string }{
		{"names", ""}, {"undo", ""}, {"show a", ""}, {"drop a", ""}, {"a = x", ""}, {"a = conj a", ""},
		{"a = 3 1", "a = 3 1\n"}, {"show a", "a = 3 1\n"}, {"names", "a = 3 1\n"}, {"b = conj a", "a = 3 1\nb = conj a\n"},
		{"c = merge b", "a = 3 1\nb = conj a\n"}, {"drop a", "a = 3 1\nb = conj a\ndrop a\n"}, {"undo", "a = 3 1\nb = conj a\n"},
		{"b = ", "a = 3 1\nb = conj a\nb = \n"}, {"undo", "a = 3 1\nb = conj a\n"}, {"undo", "a = 3 1\n"}, {"undo", ""}, {"undo", ""},
	} {
		d.Do(x.line)
		if d.Save() != x.saved {
			t.Errorf("%q: %q, not %q", x.line, d.Save(), x.saved)
		}
	}
}

func TestLoad(t *testing.T) {
	for _, s := range []string{
		"", "a = \n", "a = 1\n", "a = 3 1\nb = conj a\ndrop a\n", "show = 1\n", "undo = 1\nnames = 2\ndrop = 3\n", "show = 1\ndrop show\n", "drop = 1\ndrop drop\n",
		"a = 1\na = 1\n", strings.Repeat("a = 1\n", 200), strings.Repeat("a = 1\ndrop a\n", 100),
	} {
		d, fault := Load(s)
		if fault != (api.Fault{}) || d == nil {
			t.Fatalf("%q: %v", s, fault)
		}
		if d.Save() != s {
			t.Errorf("%q: %q", s, d.Save())
		}
		done := New()
		for line := range strings.Lines(s) {
			done.Do(strings.TrimSuffix(line, "\n"))
		}
		for range strings.Count(s, "\n") + 1 {
			if state(d) != state(done) || d.Save() != done.Save() {
				t.Errorf("%q: %q %q", s, state(d), d.Save())
			}
			text, err := d.Do("undo")
			if wantText, wantErr := done.Do("undo"); text != wantText || err != wantErr {
				t.Errorf("%q: %q %d", s, text, err)
			}
		}
	}
}

// manyNames are lines that bring so many names.
func manyNames(n int) string {
	lines := ""
	for k := range n {
		lines += nameOf(k) + " = 1\n"
	}
	return lines
}

func TestFaults(t *testing.T) {
	long := "a = " + strings.Repeat("1", 396)
	for _, x := range []struct {
		s    string
		code api.Errno
		at   int
	}{
		{"a", api.ErrSyntax, 0}, {"a = 1", api.ErrSyntax, 0}, {"a = 1\nb = 1", api.ErrSyntax, 1}, {"a = 1\n ", api.ErrSyntax, 1}, {"a = ", api.ErrSyntax, 0},
		{"\n", api.ErrSyntax, 0}, {"\n\n", api.ErrSyntax, 0}, {"a = 1\n\n", api.ErrSyntax, 1}, {"a = 1\n\nb = 1\n", api.ErrSyntax, 1}, {"\na = 1\n", api.ErrSyntax, 0},
		{"names\n", api.ErrSyntax, 0}, {"undo\n", api.ErrSyntax, 0}, {"show a\n", api.ErrSyntax, 0}, {"a = 1\nnames\n", api.ErrSyntax, 1},
		{"a = 1\nundo\n", api.ErrSyntax, 1}, {"a = 1\nshow a\n", api.ErrSyntax, 1}, {"a = 1\nshow b\n", api.ErrSyntax, 1}, {"show = 1\nshow show\n", api.ErrSyntax, 1},
		{"a = 1\r\n", api.ErrSyntax, 0}, {"nonsense\n", api.ErrSyntax, 0}, {"a = 1\nb = nope a\n", api.ErrSyntax, 1}, {"show\n", api.ErrSyntax, 0},
		{"show A\n", api.ErrSyntax, 0}, {"a = 1 \n", api.ErrSyntax, 0},
		{"drop a\n", api.ErrName, 0}, {"a = 1\ndrop a\ndrop a\n", api.ErrName, 2}, {"a = 1\nb = conj c\n", api.ErrName, 1},
		{"a = 1/1\nb = conj a\n", api.ErrShape, 1}, {"a = 1 2\nb = conj a\n", api.ErrArg, 1}, {"a = 41\nb = conj a\n", api.ErrLarge, 1},
		// The line ahead is told of first, whatever is wrong with the last one.
		{"drop a\nundo\n", api.ErrName, 0}, {"undo\ndrop a\n", api.ErrSyntax, 0}, {"drop a\nb", api.ErrName, 0}, {"a = 1\ndrop b", api.ErrSyntax, 1}, {"drop a", api.ErrSyntax, 0},
		{long + "1\n", api.ErrLarge, 0}, {long + "1", api.ErrSyntax, 0}, {long + "\n", api.ErrSyntax, 0}, {"a = 1\n" + long + "1\n", api.ErrLarge, 1},
		{"names" + strings.Repeat(" ", 400) + "\n", api.ErrLarge, 0}, {"show " + strings.Repeat("a", 400) + "\n", api.ErrLarge, 0}, {strings.Repeat("1 ", 1<<20) + "\n", api.ErrLarge, 0},
		{strings.Repeat("a = 1\n", 201), api.ErrLarge, 200}, {strings.Repeat("a = 1\n", 200) + "undo\n", api.ErrSyntax, 200}, {strings.Repeat("a = 1\n", 200) + "a", api.ErrSyntax, 200},
		{strings.Repeat("a = 1\n", 200) + "drop b\n", api.ErrName, 200}, {strings.Repeat("a = 1\n", 1<<16), api.ErrLarge, 200},
		{manyNames(51), api.ErrLarge, 50}, {manyNames(50) + "a = 2\ndrop b\nnew = 1\nb = 1\n", api.ErrLarge, 53},
	} {
		d, fault := Load(x.s)
		if d != nil || fault != (api.Fault{Code: x.code, At: x.at}) {
			t.Errorf("%.80q: %v, not %d at %d", x.s, fault, x.code, x.at)
		}
	}
}

// TestLoadedDesksGoOn: behind Load there is as much room left as there was behind the lines.
func TestLoadedDesksGoOn(t *testing.T) {
	d, fault := Load(manyNames(50) + strings.Repeat("a = 2\n", 148))
	if fault != (api.Fault{}) {
		t.Fatal(fault)
	}
	follow(t, d, said{"new = 1", "", api.ErrLarge}, said{"drop b", "", api.OK}, said{"new = 1", "1", api.OK}, said{"a = 3", "", api.ErrLarge},
		said{"undo", "", api.OK}, said{"a = 3", "3", api.OK}, said{"undo", "", api.OK}, said{"show a", "2", api.OK}, said{"undo", "", api.OK}, said{"show b", "1", api.OK})
}

// TestPiecesOfASave: a text of lines that ends within one is at fault there, and nowhere else.
func TestPiecesOfASave(t *testing.T) {
	s := "a = 3 1 2\nb = pee a\nc = queue a\nx = back b c\ny = \ndrop y\n"
	for k := range len(s) + 1 {
		d, fault := Load(s[:k])
		want := api.Fault{}
		if k > 0 && s[k-1] != '\n' {
			want = api.Fault{Code: api.ErrSyntax, At: strings.Count(s[:k], "\n")}
		}
		if fault != want || (d == nil) != (want != api.Fault{}) || d != nil && d.Save() != s[:k] {
			t.Error(fmt.Sprintf("%q", s[:k]), fault)
		}
	}
}
