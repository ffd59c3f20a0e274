package fill

import (
	"math"
	"regexp"
	"slices"
	"strconv"
	"strings"
	"testing"

	"ferrers/api"
)

func TestWriteAndRead(t *testing.T) {
	for _, c := range []struct {
		a [][]int
		s string
	}{
		{nil, ""},
		{[][]int{}, ""},
		{[][]int{{1}}, "1"},
		{[][]int{{99}}, "99"},
		{[][]int{{9, 10}}, "9 10"},
		{[][]int{{1}, {2}}, "1/2"},
		{[][]int{{1, 1, 2}, {2, 3}}, "1 1 2/2 3"},
		{[][]int{{1, 10, 20}, {9, 30}, {90}}, "1 10 20/9 30/90"},
		{[][]int{slices.Repeat([]int{1}, 40)}, strings.Repeat("1 ", 39) + "1"},
		{[][]int{slices.Repeat([]int{99}, 40)}, strings.Repeat("99 ", 39) + "99"},
	} {
		if s, err := Write(c.a); err != api.OK || s != c.s {
			t.Error(c.a, s, err, c.s)
		}
		if a, fault := Read(c.s); fault != (api.Fault{}) || !sameRows(a, c.a) {
			t.Error(c.s, a, fault, c.a)
		}
	}
}

// TestWrittenIsRead: what is turned into a text is turned back.
func TestWrittenIsRead(t *testing.T) {
	eachTableau(func(a [][]int) {
		s, err := Write(a)
		if err != api.OK || !rightText().MatchString(s) {
			t.Fatal(a, s, err)
		}
		if back, fault := Read(s); fault != (api.Fault{}) || !sameRows(back, a) {
			t.Fatal(a, s, back, fault)
		}
	})
}

// TestEveryLetterIsRead: of all numbers up to 3 digits those from 1 to 99 are letters.
func TestEveryLetterIsRead(t *testing.T) {
	for n := range 1000 {
		a, fault := Read(strconv.Itoa(n))
		switch {
		case n == 0:
			if a != nil || fault != (api.Fault{Code: api.ErrSyntax, At: 0}) {
				t.Error(n, a, fault)
			}
		case n > 99:
			if a != nil || fault != (api.Fault{Code: api.ErrSyntax, At: 2}) {
				t.Error(n, a, fault)
			}
		case fault != (api.Fault{}) || !sameRows(a, [][]int{{n}}):
			t.Error(n, a, fault)
		}
	}
}

// rightText matches the texts in which no byte is wrong.
func rightText() *regexp.Regexp {
	return regexp.MustCompile(`\A(?:[1-9][0-9]?(?:[ /][1-9][0-9]?)*)?\z`)
}

// eachText hands on all texts of these bytes, up to so many.
func eachText(letters string, most int, do func(s string)) {
	var from func(s string)
	from = func(s string) {
		do(s)
		if len(s) == most {
			return
		}
		for i := range len(letters) {
			from(s + letters[i:i+1])
		}
	}
	from("")
}

// TestFaultsOfAllShortTexts: a byte is the first wrong one if the text up to it can not be made right:
// not by nothing behind it, and not by one letter.
func TestFaultsOfAllShortTexts(t *testing.T) {
	right := rightText()
	eachText("01 9/x", 6, func(s string) {
		at := 0
		for at < len(s) && (right.MatchString(s[:at+1]) || right.MatchString(s[:at+1]+"1")) {
			at++
		}
		a, fault := Read(s)
		if !right.MatchString(s) {
			if a != nil || fault != (api.Fault{Code: api.ErrSyntax, At: at}) {
				t.Fatal(strconv.Quote(s), a, fault, at)
			}
			return
		}
		rows := splitText(s)
		if isTableau(rows) {
			if fault != (api.Fault{}) || !sameRows(a, rows) {
				t.Fatal(s, a, fault)
			}
			return
		}
		if a != nil || fault != (api.Fault{Code: api.ErrArg, At: -1}) {
			t.Fatal(s, a, fault)
		}
	})
}

// splitText makes the rows of a right text.
func splitText(s string) [][]int {
	var rows [][]int
	for row := range strings.FieldsFuncSeq(s, func(r rune) bool { return r == '/' }) {
		var numbers []int
		for _, word := range strings.Fields(row) {
			n, _ := strconv.Atoi(word)
			numbers = append(numbers, n)
		}
		rows = append(rows, numbers)
	}
	return rows
}

func TestReadSyntax(t *testing.T) {
	full := strings.Repeat("1 ", 39) + "1"
	for _, c := range []struct {
		s  string
		at int
	}{
		{" ", 0}, {"/", 0}, {"0", 0}, {"x", 0}, {"-1", 0}, {"+1", 0}, {"\x00", 0}, {"\n", 0}, {"\t1", 0}, {"\xff", 0}, {"١", 0}, {" 1", 0},
		{"00", 0}, {"01", 0}, {"1 0", 2}, {"1 01", 2}, {"1/0", 2}, {"1/ 2", 2}, {"1 /2", 2}, {"1  2", 2}, {"1//2", 2}, {"1 -2", 2},
		{"1 ", 2}, {"1/", 2}, {"12 ", 3}, {"12/", 3}, {"1 2/", 4}, {"1 2 ", 4}, {"1/2/", 4}, {"1/2 ", 4}, {"1/2\n", 3}, {"1\n", 1}, {"1\t2", 1},
		{"100", 2}, {"123", 2}, {"99 100", 5}, {"1/100", 4}, {"1.5", 1}, {"1,2", 1}, {"1x", 1}, {"12x", 2}, {"1é", 1}, {"1\u00a02", 1}, {"1\\2", 1},
		{"1:", 1}, {"1;", 1}, {"1:2", 1}, {":", 0}, {".", 0},
		// What is wrong of the rows is told only if no byte is wrong.
		{"2/1 ", 4}, {"2 1/", 4}, {"2 1 0", 4}, {"1/1/x", 4}, {"1/2 2/", 6},
		{full + " ", 80}, {full + "/", 80}, {full + " x", 80}, {full + " 1 ", 82}, {full + " 1 0", 82}, {full + " 1 1 1 1x", 87},
		{strings.Repeat("1/", 1000), 2000}, {strings.Repeat("1 ", 1<<20), 1 << 21}, {strings.Repeat("1", 1<<20), 2},
	} {
		if a, fault := Read(c.s); a != nil || fault != (api.Fault{Code: api.ErrSyntax, At: c.at}) {
			t.Error(strconv.Quote(c.s[:min(len(c.s), 100)]), a, fault, c.at)
		}
	}
}

// TestEveryByteIsReadOrWrong: of all bytes nine can begin a text, and twelve go on behind one digit.
func TestEveryByteIsReadOrWrong(t *testing.T) {
	for b := range 256 {
		c := string([]byte{byte(b)})
		_, fault := Read(c)
		if want := b >= '1' && b <= '9'; want != (fault.Code == api.OK) || !want && fault != (api.Fault{Code: api.ErrSyntax, At: 0}) {
			t.Error(b, fault)
		}
		_, fault = Read("1" + c + "2")
		want := api.Fault{Code: api.ErrSyntax, At: 1}
		switch {
		case b == ' ' || b == '/':
			want = api.Fault{}
		case b >= '0' && b <= '9':
			want.At = 2
		}
		if fault != want {
			t.Error(b, fault, want)
		}
	}
}

// TestReadErrors: what Check says of the rows, at -1.
func TestReadErrors(t *testing.T) {
	for _, c := range []struct {
		s    string
		want api.Errno
	}{
		{"2/1", api.ErrArg}, {"1/1", api.ErrArg}, {"2 1", api.ErrArg}, {"1/2 3", api.ErrArg}, {"10 9", api.ErrArg}, {"99/98", api.ErrArg},
		{strings.Repeat("1/", 39) + "1", api.ErrArg}, {strings.Repeat("1 ", 38) + "2 1", api.ErrArg},
		{strings.Repeat("1 ", 40) + "1", api.ErrLarge}, {strings.Repeat("1/", 40) + "1", api.ErrLarge},
		{strings.Repeat("2 1/", 20) + "1", api.ErrLarge}, {strings.Repeat("99 ", 40) + "99", api.ErrLarge},
		{strings.Repeat("1 ", 1<<20) + "1", api.ErrLarge}, {strings.Repeat("1/", 1<<20) + "1", api.ErrLarge},
	} {
		if a, fault := Read(c.s); a != nil || fault != (api.Fault{Code: c.want, At: -1}) {
			t.Error(c.s[:min(len(c.s), 100)], a, fault, c.want)
		}
	}
}

// TestReadIsWhatCheckSays: rows that are none, but of letters, say the same by their text.
func TestReadIsWhatCheckSays(t *testing.T) {
	tried := 0
	eachBad(func(a [][]int, want api.Errno) {
		var rows []string
		for _, row := range a {
			if len(row) == 0 || slices.Min(row) < 1 || slices.Max(row) > 99 {
				return
			}
			var letters []string
			for _, letter := range row {
				letters = append(letters, strconv.Itoa(letter))
			}
			rows = append(rows, strings.Join(letters, " "))
		}
		tried++
		s := strings.Join(rows, "/")
		if b, fault := Read(s); b != nil || fault != (api.Fault{Code: want, At: -1}) {
			t.Error(s, b, fault, want)
		}
	})
	if tried < 20 {
		t.Error(tried)
	}
}

// TestWriteOfNone: no text comes of what is none, whatever its numbers are.
func TestWriteOfNone(t *testing.T) {
	for _, n := range []int{0, -1, 100, math.MinInt, math.MaxInt} {
		if s, err := Write([][]int{{n}}); s != "" || err != api.ErrArg {
			t.Error(n, s, err)
		}
	}
}
