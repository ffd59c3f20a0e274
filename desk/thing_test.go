package desk

import (
	"strconv"
	"strings"
	"testing"

	"ferrers/api"
)

// repeated is so many texts with something between two.
func repeated(text, between string, n int) string {
	return strings.TrimSuffix(strings.Repeat(text+between, n), between)
}

func TestTexts(t *testing.T) {
	for _, text := range []string{
		"", "0", "1", "-1", "9999", "-9999", "1 2 3", "3/2/1", "0/0 0/0", "-1 0 1/10 -10", "1 2 3 4 5/6",
		repeated("1", " ", 40), repeated("-9999", " ", 40), repeated("1", "/", 40), repeated("1 2 3 4", "/", 40), repeated(repeated("7", " ", 40), "/", 4),
	} {
		follow(t, New(), said{"a = " + text, text, api.OK}, said{"show a", text, api.OK}, said{"names", "a", api.OK})
	}
}

// TestTooMuchInALine: what P46 does not allow is no thing.
func TestTooMuchInALine(t *testing.T) {
	for _, text := range []string{
		repeated("1", " ", 41), "1/" + repeated("1", " ", 41), repeated("1", " ", 41) + "/1", repeated("1", "/", 41), repeated("1 2", "/", 41),
		repeated("1", " ", 198), repeated("1", "/", 198), "10000", "-10000", "1 10000", "1/-10000", "18446744073709551617", "4294967297",
	} {
		follow(t, New(), said{"a = " + text, "", api.ErrSyntax}, said{"names", "", api.OK})
	}
}

// TestNumbers: each number that may be written is told as it was, and none beyond.
func TestNumbers(t *testing.T) {
	for n := -10100; n <= 10100; n++ {
		text, want := strconv.Itoa(n), api.OK
		if n < -9999 || n > 9999 {
			want = api.ErrSyntax
		}
		got, err := New().Do("a = " + text)
		if err != want || err == api.OK && got != text {
			t.Fatal(n, got, err)
		}
		if _, err := New().Do("a = 0" + text); err != api.ErrSyntax {
			t.Fatal("0"+text, err)
		}
	}
}

func TestNames(t *testing.T) {
	for _, name := range []string{"a", "z", "az", "abcdefghij", "klmnopqrst", "uvwxyz", "zzzzzzzzzz"} {
		follow(t, New(), said{name + " = 1", "1", api.OK}, said{"names", name, api.OK}, said{"show " + name, "1", api.OK},
			said{name + " = conj " + name, "1", api.OK}, said{"drop " + name, "", api.OK}, said{"names", "", api.OK})
	}
	for b := range 256 {
		name := "a" + string([]byte{byte(b)})
		want := api.ErrSyntax
		if b >= 'a' && b <= 'z' {
			want = api.OK
		}
		if _, err := New().Do(name + " = 1"); err != want {
			t.Errorf("%q: %d", name, err)
		}
	}
}

// TestOrderOfNames: in the order of bytes, whatever order they came in.
func TestOrderOfNames(t *testing.T) {
	follow(t, deskOf(t, "b = 1", "aa = 1", "z = 1", "ab = 1", "a = 1", "ba = 1", "aaa = 1"),
		said{"names", "a aa aaa ab b ba z", api.OK}, said{"drop aa", "", api.OK}, said{"names", "a aaa ab b ba z", api.OK},
		said{"undo", "", api.OK}, said{"names", "a aa aaa ab b ba z", api.OK})
}
