package wide

import (
	"math"
	"math/big"
	"math/rand"
	"strings"
	"testing"
)

// texts are numbers whose groups of digits are at the edges, and some others.
func texts() []string {
	nines, noughts := strings.Repeat("9", 9), strings.Repeat("0", 9)
	list := []string{
		"0", "1", "2", "9", "10", "99", "12345678", "100000000", "499999999", "500000000", "500000001", "999999998", nines,
		"1" + noughts, "1000000001", "1999999999", "2000000000", "4294967295", "4294967296", "9223372036854775807", "18446744073709551615",
		"1" + noughts + noughts, nines + nines, "1" + noughts + nines, "1" + nines + noughts, "499999999" + nines, "500000000" + noughts,
		nines + noughts, nines + "000000001", nines + noughts + noughts, nines + noughts + "000000001", "499999999" + noughts + nines,
		nines + nines + nines, nines + "999999998" + nines, nines + nines + noughts + noughts, "1" + noughts + noughts + noughts,
		"500000000" + nines + nines, "500000000" + noughts + "000000001", strings.Repeat(nines, 8), "1" + strings.Repeat(noughts, 8),
		strings.Repeat("123456789", 5), "8" + strings.Repeat("7", 60), strings.Repeat("1", 100), "3" + strings.Repeat("0", 197),
	}
	r := rand.New(rand.NewSource(1))
	for digits := 1; digits < 200; digits += 7 {
		list = append(list, randomDigits(r, digits))
	}
	return list
}

// randomDigits are some digits, among which whole runs of noughts and of nines are no rarity.
func randomDigits(r *rand.Rand, digits int) string {
	var b strings.Builder
	b.WriteByte(byte('1' + r.Intn(9)))
	for b.Len() < digits {
		switch r.Intn(4) {
		case 0:
			b.WriteString(strings.Repeat("0", 1+r.Intn(20)))
		case 1:
			b.WriteString(strings.Repeat("9", 1+r.Intn(20)))
		default:
			b.WriteByte(byte('0' + r.Intn(10)))
		}
	}
	return b.String()[:digits]
}

// both hands on each number of texts, and what it is below 0.
func both() []string {
	list := texts()
	for _, text := range texts()[1:] {
		list = append(list, "-"+text)
	}
	return list
}

func number(t *testing.T, text string) Number {
	t.Helper()
	n, fine := Read(text)
	if !fine {
		t.Fatal(text)
	}
	return n
}

func whole(t *testing.T, text string) *big.Int {
	t.Helper()
	n, fine := new(big.Int).SetString(text, 10)
	if !fine {
		t.Fatal(text)
	}
	return n
}

func TestReadAndText(t *testing.T) {
	for _, text := range both() {
		n := number(t, text)
		if n.Text() != text || n.IsZero() != (text == "0") {
			t.Error(text, n.Text(), n.IsZero())
		}
	}
	if zero := (Number{}); zero.Text() != "0" || !zero.IsZero() {
		t.Error(zero.Text())
	}
}

func TestReadNothingElse(t *testing.T) {
	for _, text := range []string{
		"", "-", "--1", "-0", "00", "01", "-01", "007", "+1", "+", "1 ", " 1", "1-", "1.0", "1e3", "0x1", "1_000", "1,000", "a", "1a", "a1",
		"1/2", "\x00", "1\x00", "\xff", "٣", "１", "000000000", "0000000001", strings.Repeat("9", 30) + "x", "x" + strings.Repeat("9", 30), "1" + strings.Repeat("0", 40) + "/", "1" + strings.Repeat("0", 40) + ":",
	} {
		if n, fine := Read(text); fine || !n.IsZero() {
			t.Errorf("%q: %v", text, n.Text())
		}
	}
}

func TestOf(t *testing.T) {
	for _, n := range []int{0, 1, -1, 7, -7, 999999999, 1000000000, -999999999, -1000000000, 1 << 40, math.MaxInt, math.MinInt, math.MinInt + 1} {
		want := big.NewInt(int64(n)).String()
		if got := Of(n); got.Text() != want || got.IsZero() != (n == 0) {
			t.Error(n, got.Text())
		}
	}
}

// same tells of a number that is as it should be, its sign and its groups included.
func same(t *testing.T, got Number, want *big.Int) bool {
	t.Helper()
	return got.Text() == want.String() && got.Compare(number(t, want.String())) == 0
}

func TestReckoning(t *testing.T) {
	for _, a := range both() {
		for _, b := range both() {
			n, m := number(t, a), number(t, b)
			x, y := whole(t, a), whole(t, b)
			if got, want := n.Compare(m), x.Cmp(y); got < 0 != (want < 0) || got > 0 != (want > 0) {
				t.Fatal(a, b, "compared:", got)
			}
			if got := n.Plus(m); !same(t, got, new(big.Int).Add(x, y)) {
				t.Fatal(a, b, "plus:", got.Text())
			}
			if got := n.Times(m); !same(t, got, new(big.Int).Mul(x, y)) {
				t.Fatal(a, b, "times:", got.Text())
			}
			common := new(big.Int).GCD(nil, nil, new(big.Int).Abs(x), new(big.Int).Abs(y))
			if got := n.Common(m); !same(t, got, common) {
				t.Fatal(a, b, "in common:", got.Text())
			}
			if b != "0" {
				if got := n.Divided(m); !same(t, got, new(big.Int).Quo(x, y)) {
					t.Fatal(a, b, "divided:", got.Text())
				}
			}
			if n.Text() != a || m.Text() != b {
				t.Fatal("a number was changed:", a, b)
			}
		}
	}
}

// TestDivisionOfProducts divides what is as near to a multiple as can be.
func TestDivisionOfProducts(t *testing.T) {
	for _, a := range texts()[1:] {
		for _, b := range texts()[1:] {
			n, m := number(t, a), number(t, b)
			product := n.Times(m)
			if got := product.Divided(m); got.Text() != a {
				t.Fatal(a, b, got.Text())
			}
			if got := product.Plus(m).Plus(Of(-1)).Divided(m); got.Text() != a {
				t.Fatal(a, b, "and all but a whole one:", got.Text())
			}
			if got := product.Plus(Of(-1)).Divided(m); got.Compare(n.Plus(Of(-1))) != 0 {
				t.Fatal(a, b, "less 1:", got.Text())
			}
			if got := product.Common(m); got.Text() != b {
				t.Fatal(a, b, "in common:", got.Text())
			}
		}
	}
}

// TestRandomDivisions: quotients and what is left over, of all lengths.
func TestRandomDivisions(t *testing.T) {
	r := rand.New(rand.NewSource(2))
	for range 20000 {
		a, b := randomDigits(r, 1+r.Intn(120)), randomDigits(r, 1+r.Intn(60))
		quotient, rest := number(t, a).size.divided(number(t, b).size)
		x, y := new(big.Int).QuoRem(whole(t, a), whole(t, b), new(big.Int))
		if quotient.text() != x.String() || rest.text() != y.String() {
			t.Fatal(a, b, quotient.text(), rest.text())
		}
	}
}
