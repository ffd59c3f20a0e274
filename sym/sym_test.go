package sym

import (
	"fmt"
	"math"
	"math/big"
	"math/rand"
	"slices"
	"strings"
	"testing"

	"ferrers/api"
	"ferrers/hooks"
	"ferrers/parts"
	"ferrers/rule"
)

// sumOf makes a sum of partitions and fractions by turns.
func sumOf(items ...any) []api.Term {
	var l []api.Term
	for i := 0; i < len(items); i += 2 {
		l = append(l, api.Term{Part: items[i].([]int), N: items[i+1].(string)})
	}
	return l
}

func ones(n int) []int {
	return slices.Repeat([]int{1}, n)
}

// fineSums are sums, of degrees up to 8.
func fineSums() [][]api.Term {
	all := func(n int, text string) []api.Term {
		var l []api.Term
		for _, p := range shapes(n) {
			l = append(l, api.Term{Part: p, N: text})
		}
		return l
	}
	return [][]api.Term{
		nil, {}, sumOf([]int(nil), "1"), sumOf([]int{}, "-7/3"), sumOf([]int{1}, "2"), sumOf([]int{8}, "-1"), sumOf(ones(8), "1/2"),
		sumOf([]int{2}, "1", []int{1, 1}, "-1"), sumOf([]int{3, 1}, "10", []int{2, 1, 1}, "3/10"), sumOf([]int{4}, "9", ones(4), "9"),
		sumOf([]int{4, 4}, "100", []int{4, 2, 2}, "1000/7", []int{3, 3, 2}, "-1000000000000000000000/3"),
		sumOf([]int{2, 2, 1}, "18446744073709551617"), sumOf([]int{2, 1}, "-9223372036854775808/9223372036854775807"),
		sumOf([]int{1}, strings.Repeat("9", 200)), sumOf([]int{1}, "-"+strings.Repeat("9", 199)), sumOf([]int{1}, "1/1"+strings.Repeat("0", 197)),
		sumOf([]int{1}, "-1/1"+strings.Repeat("0", 196)), sumOf([]int{1}, "1"+strings.Repeat("0", 99)+"/"+strings.Repeat("9", 99)),
		all(8, "1"), all(8, "-5/6"), all(7, "12"), all(3, "7"),
	}
}

// badFractions are no texts of fractions other than 0, or not in lowest terms.
func badFractions() []string {
	return []string{
		"", "0", "-0", "00", "01", "-01", "+1", "-", "--1", "1.5", "1e2", " 1", "1 ", "1\n", "\x001", "1\x00", "x", "1x", "0x1", "٣", "½", "1,5", "1_0",
		"/", "1/", "/2", "-/2", "1/0", "0/1", "0/2", "-0/2", "1/1", "7/1", "2/2", "2/4", "-2/4", "3/6", "6/4", "10/5", "1/-2", "-1/-2", "1/+2", "1/02", "01/2", "1/00", "1//2",
		"1/2/3", "1 /2", "1/ 2", "1/2 ", "1/2/", "1:2", "1\\2", "1/x", "x/2", "1/2x", "1/２", "-1/1", "1/-1",
		"18446744073709551616/2", "-18446744073709551617/18446744073709551617", "1000000000000000000000/5", "3/1000000000000000000000000000002",
		strings.Repeat("9", 201), "-" + strings.Repeat("9", 200), "1/1" + strings.Repeat("0", 198), "-1/1" + strings.Repeat("0", 197), "2/1" + strings.Repeat("0", 197),
		strings.Repeat("0", 200), strings.Repeat("9", 1<<16), "1/" + strings.Repeat("7", 1<<16), strings.Repeat("9", 99) + "/" + strings.Repeat("3", 99),
	}
}

// bad is a list that is no sum, with what is said of it.
type bad struct {
	l    []api.Term
	want api.Errno
}

// badPartitions are lists that are no partitions, with what is said of them.
func badPartitions() map[api.Errno][][]int {
	return map[api.Errno][][]int{
		api.ErrArg: {
			{0}, {-1}, {1, 2}, {3, 1, 2}, {2, 1, 0}, {2, -1}, {math.MinInt}, {5, math.MaxInt}, {0, 0}, {41, 0}, {math.MaxInt, math.MaxInt, 0},
			append(ones(41), 2), make([]int, 1<<12),
		},
		api.ErrLarge: {
			{41}, {40, 1}, {39, 2}, ones(41), {math.MaxInt}, {math.MaxInt, math.MaxInt, 2}, {1 << 62, 1 << 62, 1 << 62, 1 << 62}, ones(1 << 12),
		},
	}
}

func badSums() []bad {
	var list []bad
	for want, these := range badPartitions() {
		for _, p := range these {
			list = append(list, bad{sumOf(p, "1"), want}, bad{sumOf(p, "x"), want}, bad{sumOf([]int{2}, "1", p, "1"), want})
			// Whatever else is wrong: the first list that is no partition is told of.
			list = append(list, bad{sumOf([]int{1}, "x", []int{1, 1}, "1", p, "0"), want}, bad{sumOf([]int{9}, "1", p, "1"), want})
			list = append(list, bad{sumOf(p, "1", []int{0}, "1"), want}, bad{sumOf(p, "1", []int{41}, "1"), want})
		}
	}
	for _, text := range badFractions() {
		list = append(list, bad{sumOf([]int{1}, text), api.ErrArg}, bad{sumOf([]int(nil), text), api.ErrArg}, bad{sumOf([]int{2}, "1", []int{1, 1}, text), api.ErrArg})
		list = append(list, bad{sumOf([]int{2}, text, []int{1, 1}, "1"), api.ErrArg}, bad{sumOf([]int{9}, text), api.ErrArg}, bad{sumOf([]int{40}, "1", ones(40), text), api.ErrArg})
	}
	for _, l := range [][]api.Term{
		// not of one size
		sumOf([]int{2}, "1", []int{1}, "1"), sumOf([]int{1}, "1", []int{2}, "1"), sumOf([]int{1}, "1", []int{}, "1"), sumOf([]int{}, "1", []int{1}, "1"),
		sumOf([]int{3}, "1", []int{2, 1}, "1", []int{1, 1}, "1"), sumOf([]int{3}, "1", []int{2}, "1", []int{1, 1, 1}, "1"), sumOf([]int{9}, "1", []int{8}, "1"),
		sumOf([]int{8}, "1", []int{7, 2}, "1"), sumOf([]int{2, 1}, "1", []int{2}, "1"), sumOf([]int{2}, "1", []int{2, 1}, "1"),
		// one of them twice
		sumOf([]int{}, "1", []int{}, "1"), sumOf([]int{1}, "1", []int{1}, "1"), sumOf([]int{2}, "1", []int{1, 1}, "1", []int{1, 1}, "2"), sumOf([]int{2}, "1", []int{2}, "-1", []int{1, 1}, "1"),
		sumOf([]int{9}, "1", []int{9}, "1"), sumOf([]int{3}, "1", []int{2, 1}, "1", []int{3}, "1"),
		// out of order
		sumOf([]int{1, 1}, "1", []int{2}, "1"), sumOf([]int{3}, "1", ones(3), "1", []int{2, 1}, "1"), sumOf([]int{4, 1, 1}, "1", []int{4, 2}, "1"), sumOf([]int{3, 3}, "1", []int{4, 1, 1}, "1"),
		sumOf([]int{8, 1}, "1", []int{9}, "1"), sumOf([]int{39, 1}, "1", []int{40}, "1"),
	} {
		list = append(list, bad{l, api.ErrArg})
	}
	for _, l := range [][]api.Term{
		sumOf([]int{9}, "1"), sumOf([]int{8, 1}, "1"), sumOf(ones(9), "-1/2"), sumOf([]int{40}, "1"), sumOf([]int{40}, "1", []int{39, 1}, "2/3", ones(40), strings.Repeat("9", 200)), sumOf([]int{5, 4}, "3", []int{5, 3, 1}, "3"),
	} {
		list = append(list, bad{l, api.ErrLarge})
	}
	return list
}

var badKinds = []int{0, 6, -1, 7, 255, 256 + 5, math.MinInt, math.MaxInt}

// brief cuts what would be too long to be read.
func brief(l []api.Term) string {
	text := fmt.Sprint(l)
	return text[:min(len(text), 300)]
}

func TestCheck(t *testing.T) {
	for _, kind := range kinds {
		for _, l := range fineSums() {
			if err := Check(kind, l); err != api.OK {
				t.Error(kind, brief(l), err)
			}
		}
		for _, c := range badSums() {
			if err := Check(kind, c.l); err != c.want {
				t.Error(kind, brief(c.l), err, c.want)
			}
		}
	}
}

func TestKindsAreChecked(t *testing.T) {
	for _, kind := range badKinds {
		lists := fineSums()
		for _, c := range badSums() {
			lists = append(lists, c.l)
		}
		for _, l := range lists {
			if err := Check(kind, l); err != api.ErrArg {
				t.Error("Check", kind, brief(l), err)
			}
			if got, err := Convert(kind, api.Schur, l); got != nil || err != api.ErrArg {
				t.Error("Convert from", kind, brief(l), got, err)
			}
			if got, err := Convert(api.Schur, kind, l); got != nil || err != api.ErrArg {
				t.Error("Convert to", kind, brief(l), got, err)
			}
			if got, err := Times(kind, l, l); got != nil || err != api.ErrArg {
				t.Error("Times", kind, brief(l), got, err)
			}
			if got, err := Omega(kind, l); got != nil || err != api.ErrArg {
				t.Error("Omega", kind, brief(l), got, err)
			}
			if got, err := Inner(kind, l, l); got != "" || err != api.ErrArg {
				t.Error("Inner", kind, brief(l), got, err)
			}
		}
	}
}

func TestErrorsOfOneSum(t *testing.T) {
	for _, kind := range kinds {
		for _, c := range badSums() {
			for _, to := range kinds {
				if got, err := Convert(kind, to, c.l); got != nil || err != c.want {
					t.Error("Convert", kind, to, brief(c.l), got, err, c.want)
				}
			}
			if got, err := Omega(kind, c.l); got != nil || err != c.want {
				t.Error("Omega", kind, brief(c.l), got, err, c.want)
			}
		}
	}
}

func TestErrorsOfTwoSums(t *testing.T) {
	kind := api.Schur
	check := func(a, b []api.Term, want api.Errno) {
		t.Helper()
		if got, err := Times(kind, a, b); got != nil || err != want {
			t.Error("Times", kind, brief(a), brief(b), got, err, want)
		}
		if got, err := Inner(kind, a, b); got != "" || err != want {
			t.Error("Inner", kind, brief(a), brief(b), got, err, want)
		}
	}
	fine, bads := fineSums(), badSums()
	for i, c := range bads {
		kind = kinds[i%len(kinds)]
		f := fine[i%len(fine)]
		check(c.l, f, c.want)
		check(f, c.l, c.want)
		check(c.l, nil, c.want)
		check(nil, c.l, c.want)
		check(c.l, c.l, c.want)
		// The first is told of, whatever is said of the second.
		for _, other := range bads[len(bads)-4:] {
			check(c.l, other.l, c.want)
			check(other.l, c.l, other.want)
		}
	}
}

func TestConvert(t *testing.T) {
	for _, c := range []struct {
		from, to int
		l, want  []api.Term
	}{
		{api.Power, api.Schur, sumOf([]int{2}, "1"), sumOf([]int{2}, "1", []int{1, 1}, "-1")},
		{api.Schur, api.Power, sumOf([]int{2}, "1"), sumOf([]int{2}, "1/2", []int{1, 1}, "1/2")},
		{api.Schur, api.Power, sumOf([]int{1, 1}, "1"), sumOf([]int{2}, "-1/2", []int{1, 1}, "1/2")},
		{api.Schur, api.Power, sumOf([]int{2}, "1", []int{1, 1}, "-1"), sumOf([]int{2}, "1")},
		{api.Schur, api.Power, sumOf([]int{2, 1}, "6"), sumOf([]int{3}, "-2", ones(3), "2")},
		{api.Monomial, api.Elementary, sumOf([]int{2, 1}, "1"), sumOf([]int{3}, "-3", []int{2, 1}, "1")},
		{api.Monomial, api.Complete, sumOf([]int{2, 1}, "1"), sumOf([]int{3}, "-3", []int{2, 1}, "5", ones(3), "-2")},
		{api.Monomial, api.Power, sumOf([]int{2, 1}, "1"), sumOf([]int{3}, "-1", []int{2, 1}, "1")},
		{api.Monomial, api.Power, sumOf([]int{1, 1}, "4/3"), sumOf([]int{2}, "-2/3", []int{1, 1}, "2/3")},
		{api.Monomial, api.Schur, sumOf([]int{2, 1}, "1"), sumOf([]int{2, 1}, "1", ones(3), "-2")},
		{api.Elementary, api.Monomial, sumOf([]int{2, 1}, "1"), sumOf([]int{2, 1}, "1", ones(3), "3")},
		{api.Elementary, api.Complete, sumOf([]int{2, 1}, "1"), sumOf([]int{2, 1}, "-1", ones(3), "1")},
		{api.Elementary, api.Schur, sumOf([]int{2, 1}, "1"), sumOf([]int{2, 1}, "1", ones(3), "1")},
		{api.Complete, api.Monomial, sumOf([]int{2, 1}, "1"), sumOf([]int{3}, "1", []int{2, 1}, "2", ones(3), "3")},
		{api.Complete, api.Schur, sumOf([]int{2, 1}, "-1/2"), sumOf([]int{3}, "-1/2", []int{2, 1}, "-1/2")},
		{api.Power, api.Monomial, sumOf([]int{2, 1}, "1"), sumOf([]int{3}, "1", []int{2, 1}, "1")},
		{api.Power, api.Elementary, sumOf([]int{3}, "1"), sumOf([]int{3}, "3", []int{2, 1}, "-3", ones(3), "1")},
		{api.Schur, api.Monomial, sumOf([]int{2, 1}, "1"), sumOf([]int{2, 1}, "1", ones(3), "2")},
		{api.Schur, api.Complete, sumOf([]int{2, 1}, "1"), sumOf([]int{3}, "-1", []int{2, 1}, "1")},
		{api.Schur, api.Elementary, sumOf([]int{2, 1}, "1"), sumOf([]int{3}, "-1", []int{2, 1}, "1")},
		{api.Schur, api.Monomial, sumOf(ones(8), "5"), sumOf(ones(8), "5")},
		{api.Elementary, api.Monomial, sumOf([]int{8}, "5"), sumOf(ones(8), "5")},
		{api.Power, api.Monomial, sumOf([]int{8}, "1/5"), sumOf([]int{8}, "1/5")},
		{api.Monomial, api.Schur, sumOf([]int{2}, "1", []int{1, 1}, "1"), sumOf([]int{2}, "1")},
		{api.Monomial, api.Power, sumOf([]int{2}, "1/2", []int{1, 1}, "1"), sumOf([]int{1, 1}, "1/2")},
	} {
		if got, err := Convert(c.from, c.to, c.l); err != api.OK || !sameTerms(got, c.want) {
			t.Error(c.from, c.to, c.l, got, err, c.want)
		}
	}
}

// TestConvertNothing: 0 is the list of nothing in each kind, and of the degree 0 all kinds are the same.
func TestConvertNothing(t *testing.T) {
	for _, from := range kinds {
		for _, to := range kinds {
			for _, l := range [][]api.Term{nil, {}} {
				if got, err := Convert(from, to, l); err != api.OK || len(got) != 0 {
					t.Error(from, to, got, err)
				}
			}
			for _, l := range [][]api.Term{sumOf([]int(nil), "-7/3"), sumOf([]int{}, "5")} {
				if got, err := Convert(from, to, l); err != api.OK || !sameTerms(got, l) {
					t.Error(from, to, got, err)
				}
			}
			for _, l := range [][]api.Term{sumOf([]int{1}, "-7/3"), sumOf([]int{1}, "5")} {
				if got, err := Convert(from, to, l); err != api.OK || !sameTerms(got, l) {
					t.Error(from, to, got, err)
				}
			}
		}
	}
}

// TestConvertKeepsThePolynomial: each single one of each kind, written by each.
func TestConvertKeepsThePolynomial(t *testing.T) {
	known := book{}
	eachShape(api.MaxDegree, func(p []int) {
		for _, from := range kinds {
			want := known.of(t, from, one(p))
			for _, to := range kinds {
				l, err := Convert(from, to, one(p))
				if got := known.of(t, to, told(t, l, err)); !got.same(want) {
					t.Fatal(from, to, p, l)
				}
			}
		}
	})
}

// TestConvertSums: sums of several, with long fractions, and back.
func TestConvertSums(t *testing.T) {
	known := book{}
	r := rand.New(rand.NewSource(3))
	for n := range api.MaxDegree + 1 {
		for _, digits := range []int{1, 3, 20, 98} {
			for _, from := range kinds {
				l := randomSum(r, n, digits)
				want := known.of(t, from, l)
				for _, to := range kinds {
					m, err := Convert(from, to, l)
					if got := known.of(t, to, told(t, m, err)); !got.same(want) {
						t.Fatal(from, to, brief(l), brief(m))
					}
					// What is told may be too long to be handed in.
					if Check(to, m) == api.OK {
						if back, err := Convert(to, from, m); err != api.OK || !sameTerms(back, l) {
							t.Fatal(from, to, brief(l), brief(back), err)
						}
					}
				}
			}
		}
	}
}

// TestConvertTellsLongFractions: those that are handed in are bounded, those that are told are not.
func TestConvertTellsLongFractions(t *testing.T) {
	long := strings.Repeat("9", 200)
	got, err := Convert(api.Schur, api.Power, sumOf([]int{2}, long))
	if want := sumOf([]int{2}, long+"/2", []int{1, 1}, long+"/2"); err != api.OK || !sameTerms(got, want) {
		t.Error(brief(got), err)
	}
	nought := strings.Repeat("0", 197)
	got, err = Convert(api.Elementary, api.Monomial, sumOf([]int{1, 1}, "1/1"+nought))
	if want := sumOf([]int{2}, "1/1"+nought, []int{1, 1}, "1/5"+nought[1:]); err != api.OK || !sameTerms(got, want) {
		t.Error(brief(got), err)
	}
	got, err = Convert(api.Power, api.Monomial, sumOf([]int{2}, "1/1"+nought, []int{1, 1}, "1/3"))
	sum := new(big.Rat).Add(rat(t, "1/1"+nought), big.NewRat(1, 3))
	if want := sumOf([]int{2}, sum.RatString(), []int{1, 1}, "2/3"); err != api.OK || !sameTerms(got, want) || len(want[0].N) <= 200 {
		t.Error(brief(got), err)
	}
}

func TestTimes(t *testing.T) {
	two := sumOf([]int{2}, "1")
	for _, c := range []struct {
		kind       int
		a, b, want []api.Term
	}{
		{api.Monomial, two, two, sumOf([]int{4}, "1", []int{2, 2}, "2")},
		{api.Elementary, two, two, sumOf([]int{2, 2}, "1")},
		{api.Complete, two, two, sumOf([]int{2, 2}, "1")},
		{api.Power, two, two, sumOf([]int{2, 2}, "1")},
		{api.Schur, two, two, sumOf([]int{4}, "1", []int{3, 1}, "1", []int{2, 2}, "1")},
		{api.Monomial, sumOf([]int{1}, "1"), sumOf([]int{1}, "1"), sumOf([]int{2}, "1", []int{1, 1}, "2")},
		{api.Monomial, sumOf([]int{1}, "1/2"), sumOf([]int{2, 1}, "-3"), sumOf([]int{3, 1}, "-3/2", []int{2, 2}, "-3", []int{2, 1, 1}, "-3")},
		{api.Power, sumOf([]int{3, 1}, "2/3"), sumOf([]int{2, 2}, "3/4"), sumOf([]int{3, 2, 2, 1}, "1/2")},
		{api.Elementary, sumOf([]int{2}, "1", []int{1, 1}, "1"), sumOf([]int{2}, "1", []int{1, 1}, "-1"), sumOf([]int{2, 2}, "1", ones(4), "-1")},
		{api.Schur, sumOf([]int{2, 1}, "1"), sumOf([]int{1}, "5/6"), sumOf([]int{3, 1}, "5/6", []int{2, 2}, "5/6", []int{2, 1, 1}, "5/6")},
		{api.Schur, sumOf([]int(nil), "2/3"), sumOf([]int{8}, "3/2"), sumOf([]int{8}, "1")},
		{api.Monomial, sumOf(ones(8), "7"), sumOf([]int{}, "-1/7"), sumOf(ones(8), "-1")},
		{api.Monomial, sumOf([]int{7}, "1"), sumOf([]int{1}, "1"), sumOf([]int{8}, "1", []int{7, 1}, "1")},
		{api.Monomial, sumOf([]int{4}, "1"), sumOf([]int{4}, "1"), sumOf([]int{8}, "1", []int{4, 4}, "2")},
	} {
		if got, err := Times(c.kind, c.a, c.b); err != api.OK || !sameTerms(got, c.want) {
			t.Error(c.kind, c.a, c.b, got, err, c.want)
		}
		if got, err := Times(c.kind, c.b, c.a); err != api.OK || !sameTerms(got, c.want) {
			t.Error("the other way round", c.kind, c.b, c.a, got, err, c.want)
		}
	}
}

// TestTimesNothing: the list of nothing goes with each sum, whatever its degree, and so does a number.
func TestTimesNothing(t *testing.T) {
	for _, kind := range kinds {
		for _, l := range fineSums() {
			for _, zero := range [][]api.Term{nil, {}} {
				if got, err := Times(kind, l, zero); err != api.OK || len(got) != 0 {
					t.Error(kind, brief(l), got, err)
				}
				if got, err := Times(kind, zero, l); err != api.OK || len(got) != 0 {
					t.Error(kind, brief(l), got, err)
				}
			}
			if got, err := Times(kind, l, sumOf([]int(nil), "1")); err != api.OK || !sameTerms(got, l) {
				t.Error(kind, brief(l), got, err)
			}
		}
	}
}

func TestTimesOfTooGreatADegree(t *testing.T) {
	for _, kind := range kinds {
		for n := range api.MaxDegree + 1 {
			for m := range api.MaxDegree + 1 {
				a, b := sumOf(ones(n), "1"), shapes(m)
				got, err := Times(kind, a, one(b[0]))
				if n+m <= api.MaxDegree {
					if err != api.OK || len(got) == 0 || boxesOf(got[0].Part) != n+m {
						t.Error(kind, n, m, got, err)
					}
				} else if got != nil || err != api.ErrLarge {
					t.Error(kind, n, m, got, err)
				}
			}
		}
	}
}

// TestTimesMultiplies: the products of all products, for two of each kind.
func TestTimesMultiplies(t *testing.T) {
	known := book{}
	r := rand.New(rand.NewSource(4))
	check := func(kind int, a, b []api.Term, n, m int) {
		l, err := Times(kind, a, b)
		want := known.of(t, kind, a).times(known.of(t, kind, b), n, m)
		if got := known.of(t, kind, told(t, l, err)); !got.same(want) {
			t.Fatal(kind, brief(a), brief(b), brief(l))
		}
	}
	for _, kind := range kinds {
		eachShape(5, func(p []int) {
			eachShape(5-boxesOf(p), func(q []int) { check(kind, one(p), one(q), boxesOf(p), boxesOf(q)) })
		})
		for n := range api.MaxDegree + 1 {
			for m := range api.MaxDegree + 1 - n {
				for _, digits := range []int{1, 30, 98} {
					check(kind, randomSum(r, n, digits), randomSum(r, m, digits), n, m)
				}
			}
		}
	}
}

// TestRoadMakesNoDifference: whatever basis a product is made in.
func TestRoadMakesNoDifference(t *testing.T) {
	r := rand.New(rand.NewSource(5))
	convert := func(from, to int, l []api.Term) []api.Term {
		got, err := Convert(from, to, l)
		return told(t, got, err)
	}
	for range 20 {
		n := r.Intn(api.MaxDegree + 1)
		a, b := randomSum(r, n, 2), randomSum(r, api.MaxDegree-n, 2)
		l, err := Times(api.Schur, a, b)
		want := told(t, l, err)
		for _, kind := range kinds {
			got, err := Times(kind, convert(api.Schur, kind, a), convert(api.Schur, kind, b))
			if err != api.OK || !sameTerms(convert(kind, api.Schur, got), want) {
				t.Fatal(kind, brief(a), brief(b), brief(got), err)
			}
		}
	}
}

// TestTimesOfShapes: Schur's polynomials are multiplied as package rule says.
func TestTimesOfShapes(t *testing.T) {
	eachShape(6, func(p []int) {
		eachShape(6-boxesOf(p), func(q []int) {
			want, err := rule.Product(p, q)
			if err != api.OK {
				t.Fatal(p, q, err)
			}
			if got, err := Times(api.Schur, one(p), one(q)); err != api.OK || !sameTerms(got, want) {
				t.Fatal(p, q, got, err, want)
			}
		})
	})
}

func TestOmega(t *testing.T) {
	for _, c := range []struct {
		kind    int
		l, want []api.Term
	}{
		{api.Schur, sumOf([]int{2}, "1"), sumOf([]int{1, 1}, "1")},
		{api.Schur, sumOf([]int{3}, "1/2", []int{2, 1}, "2"), sumOf([]int{2, 1}, "2", ones(3), "1/2")},
		{api.Power, sumOf([]int{2}, "1"), sumOf([]int{2}, "-1")},
		{api.Power, sumOf([]int{3}, "1", []int{2, 1}, "1", ones(3), "1"), sumOf([]int{3}, "1", []int{2, 1}, "-1", ones(3), "1")},
		{api.Elementary, sumOf([]int{2}, "1"), sumOf([]int{2}, "-1", []int{1, 1}, "1")},
		{api.Complete, sumOf([]int{2}, "1"), sumOf([]int{2}, "-1", []int{1, 1}, "1")},
		{api.Monomial, sumOf([]int{2}, "1"), sumOf([]int{2}, "-1")},
		{api.Monomial, sumOf([]int{1, 1}, "1"), sumOf([]int{2}, "1", []int{1, 1}, "1")},
		{api.Monomial, sumOf([]int{2, 1}, "1"), sumOf([]int{3}, "-2", []int{2, 1}, "-1")},
		{api.Monomial, sumOf([]int(nil), "2/3"), sumOf([]int{}, "2/3")},
		{api.Elementary, nil, nil},
		{api.Schur, []api.Term{}, nil},
	} {
		if got, err := Omega(c.kind, c.l); err != api.OK || !sameTerms(got, c.want) {
			t.Error(c.kind, c.l, got, err, c.want)
		}
	}
}

// TestOmegaByItsWords: elementary ones become complete ones; and power sums change their signs.
func TestOmegaByItsWords(t *testing.T) {
	known := book{}
	r := rand.New(rand.NewSource(6))
	check := func(kind int, l []api.Term) {
		got, err := Omega(kind, l)
		f := known.of(t, kind, told(t, got, err))
		elementary, err := Convert(kind, api.Elementary, l)
		if want := known.of(t, api.Complete, told(t, elementary, err)); !f.same(want) {
			t.Fatal(kind, brief(l), brief(got))
		}
		power, err := Convert(kind, api.Power, l)
		power = told(t, power, err)
		for i, term := range power {
			if (boxesOf(term.Part)-len(term.Part))%2 == 1 {
				power[i].N = new(big.Rat).Neg(rat(t, term.N)).RatString()
			}
		}
		if want := known.of(t, api.Power, power); !f.same(want) {
			t.Fatal("by power sums", kind, brief(l), brief(got))
		}
		if Check(kind, got) == api.OK {
			if again, err := Omega(kind, got); err != api.OK || !sameTerms(again, l) {
				t.Fatal("twice", kind, brief(l), brief(again), err)
			}
		}
	}
	for _, kind := range kinds {
		eachShape(6, func(p []int) { check(kind, one(p)) })
		for n := range api.MaxDegree + 1 {
			check(kind, randomSum(r, n, 3))
			check(kind, randomSum(r, n, 95))
		}
	}
}

// TestOmegaTurnsShapes: Schur's polynomial becomes that of the conjugate.
func TestOmegaTurnsShapes(t *testing.T) {
	eachShape(api.MaxDegree, func(p []int) {
		q, err := parts.Conjugate(p)
		if err != api.OK {
			t.Fatal(p, err)
		}
		if got, err := Omega(api.Schur, one(p)); err != api.OK || !sameTerms(got, one(q)) {
			t.Error(p, got, err)
		}
	})
}

func TestInner(t *testing.T) {
	two := sumOf([]int{2}, "1")
	for _, c := range []struct {
		kind int
		a, b []api.Term
		want string
	}{
		{api.Power, two, two, "2"},
		{api.Schur, two, two, "1"},
		{api.Complete, two, two, "1"},
		{api.Elementary, two, two, "1"},
		{api.Monomial, two, two, "2"},
		{api.Power, two, sumOf([]int{1, 1}, "1"), "0"},
		{api.Complete, two, sumOf([]int{1, 1}, "1"), "1"},
		{api.Monomial, sumOf([]int{2}, "1/2"), sumOf([]int{1, 1}, "1/3"), "-1/6"},
		{api.Schur, sumOf([]int{3}, "1/2", []int{2, 1}, "2/3"), sumOf([]int{3}, "4", []int{2, 1}, "-6"), "-2"},
		{api.Schur, sumOf([]int{3}, "1/2", []int{2, 1}, "2/3"), sumOf([]int{3}, "4", []int{2, 1}, "-3"), "0"},
		{api.Schur, sumOf([]int{3}, "1/2", []int{2, 1}, "2/3"), sumOf([]int{2, 1}, "1/4", ones(3), "9"), "1/6"},
		{api.Schur, sumOf([]int{3}, "1"), sumOf(ones(3), "1"), "0"},
		{api.Schur, two, sumOf([]int{1}, "1"), "0"},
		{api.Power, sumOf([]int(nil), "1"), two, "0"},
		{api.Monomial, sumOf([]int(nil), "3/2"), sumOf([]int{}, "4"), "6"},
		{api.Elementary, sumOf([]int(nil), "3/2"), sumOf([]int{}, "-2/3"), "-1"},
		{api.Power, sumOf(ones(8), "1"), sumOf(ones(8), "1"), "40320"},
		{api.Power, sumOf([]int{8}, "1/4"), sumOf([]int{8}, "1/4"), "1/2"},
		{api.Schur, sumOf([]int{8}, strings.Repeat("9", 200)), sumOf([]int{8}, strings.Repeat("9", 200)), strings.Repeat("9", 199) + "8" + strings.Repeat("0", 199) + "1"},
	} {
		if got, err := Inner(c.kind, c.a, c.b); err != api.OK || got != c.want {
			t.Error(c.kind, c.a, c.b, got, err, c.want)
		}
		if got, err := Inner(c.kind, c.b, c.a); err != api.OK || got != c.want {
			t.Error("the other way round", c.kind, c.b, c.a, got, err, c.want)
		}
	}
}

// TestInnerOfDegrees: of two degrees, and of nothing, it is 0, even if both together would be too great.
func TestInnerOfDegrees(t *testing.T) {
	for _, kind := range kinds {
		for _, l := range fineSums() {
			if got, err := Inner(kind, l, nil); err != api.OK || got != "0" {
				t.Error(kind, brief(l), got, err)
			}
			if got, err := Inner(kind, nil, l); err != api.OK || got != "0" {
				t.Error(kind, brief(l), got, err)
			}
		}
		eachShape(api.MaxDegree, func(p []int) {
			for n := range api.MaxDegree + 1 {
				if n == boxesOf(p) {
					continue
				}
				if got, err := Inner(kind, one(p), one(shapes(n)[0])); err != api.OK || got != "0" {
					t.Error(kind, p, n, got, err)
				}
			}
		})
	}
}

// centre counts, for power sums, the permutations that go with one whose cycles are the parts of p.
func centre(p []int) *big.Rat {
	n, same := int64(1), int64(0)
	for i, part := range p {
		same++
		if i > 0 && p[i-1] != part {
			same = 1
		}
		n *= int64(part) * same
	}
	return big.NewRat(n, 1)
}

// TestInnerByItsWords: by Schur's polynomials, and by power sums, each of which goes with itself alone.
func TestInnerByItsWords(t *testing.T) {
	by := func(from, to int, a, b []api.Term, weight func(p []int) *big.Rat) string {
		a, err := Convert(from, to, a)
		a = told(t, a, err)
		b, err = Convert(from, to, b)
		b = told(t, b, err)
		all := new(big.Rat)
		for _, x := range a {
			for _, y := range b {
				if slices.Equal(x.Part, y.Part) {
					product := new(big.Rat).Mul(rat(t, x.N), rat(t, y.N))
					all.Add(all, product.Mul(product, weight(x.Part)))
				}
			}
		}
		return all.RatString()
	}
	single := func([]int) *big.Rat { return big.NewRat(1, 1) }
	r := rand.New(rand.NewSource(7))
	for _, kind := range kinds {
		check := func(a, b []api.Term) {
			got, err := Inner(kind, a, b)
			if want := by(kind, api.Schur, a, b, single); err != api.OK || got != want {
				t.Fatal(kind, brief(a), brief(b), got, err, want)
			}
			if want := by(kind, api.Power, a, b, centre); got != want {
				t.Fatal("by power sums", kind, brief(a), brief(b), got, want)
			}
		}
		eachShape(5, func(p []int) {
			for _, q := range shapes(boxesOf(p)) {
				check(one(p), one(q))
			}
		})
		for n := range api.MaxDegree + 1 {
			check(randomSum(r, n, 2), randomSum(r, n, 2))
			check(randomSum(r, n, 98), randomSum(r, n, 98))
		}
	}
}

func TestKostka(t *testing.T) {
	for _, c := range []struct {
		p, content []int
		want       int
	}{
		{nil, nil, 1},
		{[]int{}, nil, 1},
		{[]int{1}, []int{1}, 1},
		{[]int{2}, []int{1, 1}, 1},
		{[]int{1, 1}, []int{2}, 0},
		{[]int{2, 1}, []int{1, 1, 1}, 2},
		{[]int{2, 1}, []int{2, 1}, 1},
		{[]int{2, 1}, []int{3}, 0},
		{[]int{3, 1}, []int{2, 1, 1}, 2},
		{[]int{2, 2}, []int{2, 1, 1}, 1},
		{[]int{3, 1}, []int{2, 2}, 1},
		{[]int{2, 2}, []int{3, 1}, 0},
		{[]int{8}, []int{3, 2, 2, 1}, 1},
		{ones(8), ones(8), 1},
		{ones(8), []int{2, 1, 1, 1, 1, 1, 1}, 0},
		{[]int{4, 2, 1, 1}, ones(8), 90},
		{[]int{3, 2, 1, 1, 1}, ones(8), 64},
	} {
		if got, err := Kostka(c.p, c.content); err != api.OK || got != c.want {
			t.Error(c.p, c.content, got, err, c.want)
		}
	}
}

// TestKostkaCounts: as many as there are one by one, as hooks say, and none where the content is not dominated.
func TestKostkaCounts(t *testing.T) {
	eachShape(api.MaxDegree, func(p []int) {
		n := boxesOf(p)
		for _, content := range shapes(n) {
			got, err := Kostka(p, content)
			if want := tableaux(p, content); err != api.OK || got != want {
				t.Fatal(p, content, got, err, want)
			}
			if dominates, _ := parts.Dominates(p, content); dominates != (got > 0) {
				t.Fatal(p, content, got, dominates)
			}
		}
		got, err := Kostka(p, ones(n))
		if want, _ := hooks.Standard(p); err != api.OK || fmt.Sprint(got) != want {
			t.Fatal(p, got, err, want)
		}
	})
}

func TestErrorsOfKostka(t *testing.T) {
	check := func(p, content []int, want api.Errno) {
		t.Helper()
		if got, err := Kostka(p, content); got != 0 || err != want {
			t.Error(p[:min(len(p), 12)], content[:min(len(content), 12)], got, err, want)
		}
	}
	bads := badPartitions()
	for want, these := range bads {
		for i, p := range these {
			for _, fine := range [][]int{nil, {1}, {2, 1}, {9}, {40}} {
				check(p, fine, want)
				check(fine, p, want)
			}
			for _, others := range bads {
				check(p, others[i%len(others)], want)
			}
		}
	}
	for _, pair := range [][2][]int{{{1}, nil}, {nil, {1}}, {{2}, {3}}, {{2, 1}, {2, 1, 1}}, {{8}, {9}}, {{9}, {8}}, {{40}, {9}}, {{9}, {10}}, {{20, 20}, ones(39)}} {
		check(pair[0], pair[1], api.ErrShape)
	}
	for _, pair := range [][2][]int{{{9}, {9}}, {{9}, ones(9)}, {{5, 4}, {3, 3, 3}}, {{40}, ones(40)}, {ones(40), {40}}} {
		check(pair[0], pair[1], api.ErrLarge)
	}
}
