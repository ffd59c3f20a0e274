package sym

import (
	"math/big"
	"math/rand"
	"slices"
	"testing"

	"ferrers/api"
	"ferrers/parts"
)

// kinds are those of P24.
var kinds = []int{api.Monomial, api.Elementary, api.Complete, api.Power, api.Schur}

// shapes lists the partitions of n in parts.All's order.
func shapes(n int) [][]int {
	list, err := parts.All(n)
	if err != api.OK {
		panic(err)
	}
	return list
}

// eachShape hands on all shapes of up to n boxes.
func eachShape(n int, do func(p []int)) {
	for m := range n + 1 {
		for _, p := range shapes(m) {
			do(p)
		}
	}
}

func boxesOf(p []int) int {
	n := 0
	for _, part := range p {
		n += part
	}
	return n
}

// falling answers the numbers but the noughts, the greatest first.
func falling(numbers []int) []int {
	list := slices.DeleteFunc(slices.Clone(numbers), func(n int) bool { return n == 0 })
	slices.Sort(list)
	slices.Reverse(list)
	return list
}

func keyOf(p []int) string {
	key := make([]byte, 0, len(p))
	for _, part := range p {
		key = append(key, byte(part))
	}
	return string(key)
}

// polynomial is a symmetric one by the numbers of its products of powers. That of one product is that of all others
// with the same exponents, so these are told with falling exponents alone, and stand for all of it.
type polynomial map[string]*big.Rat

func (f polynomial) add(p []int, n *big.Rat) {
	key := keyOf(p)
	if f[key] == nil {
		f[key] = new(big.Rat)
	}
	f[key].Add(f[key], n)
	if f[key].Sign() == 0 {
		delete(f, key)
	}
}

func (f polynomial) at(p []int) *big.Rat {
	if n := f[keyOf(p)]; n != nil {
		return n
	}
	return new(big.Rat)
}

func (f polynomial) same(g polynomial) bool {
	for key, n := range f {
		if g[key] == nil || g[key].Cmp(n) != 0 {
			return false
		}
	}
	return len(f) == len(g)
}

// eachBelow hands on all lists of numbers from 0 on that are together n, none above that of most at the same place.
func eachBelow(most []int, n int, do func(list []int)) {
	list := make([]int, len(most))
	var put func(at, left int)
	put = func(at, left int) {
		if at == len(most) {
			if left == 0 {
				do(list)
			}
			return
		}
		for k := 0; k <= min(most[at], left); k++ {
			list[at] = k
			put(at+1, left-k)
		}
	}
	put(0, n)
}

func less(a, b []int) []int {
	list := slices.Clone(a)
	for i, n := range b {
		list[i] -= n
	}
	return list
}

// mayStand tells whether the polynomial of one part has a product with these exponents.
func mayStand(kind int, exponents []int) bool {
	switch kind {
	case api.Elementary:
		return slices.Max(append(slices.Clone(exponents), 0)) <= 1
	case api.Power:
		return len(falling(exponents)) == 1
	}
	return true
}

// ways counts how the product with the exponents comes of choosing a product for each part.
func ways(kind int, p, exponents []int) int {
	if len(p) == 0 {
		return 1
	}
	n := 0
	eachBelow(exponents, p[0], func(list []int) {
		if mayStand(kind, list) {
			n += ways(kind, p[1:], less(exponents, list))
		}
	})
	return n
}

// tableaux counts those of the shape p that have letter i so often as content says at i - 1: one by one, letters into boxes.
func tableaux(p, content []int) int {
	left := slices.Clone(content)
	rows := make([][]int, len(p))
	var put func(i, j int) int
	put = func(i, j int) int {
		if i == len(p) {
			return 1
		}
		if j == p[i] {
			return put(i+1, 0)
		}
		n := 0
		for letter := range left {
			if left[letter] == 0 || j > 0 && rows[i][j-1] > letter || i > 0 && rows[i-1][j] >= letter {
				continue
			}
			left[letter]--
			rows[i] = append(rows[i][:j], letter)
			n += put(i, j+1)
			left[letter]++
		}
		return n
	}
	return put(0, 0)
}

// single is the polynomial of the kind of p, by the words of P24.
func single(kind int, p []int) polynomial {
	f := polynomial{}
	for _, q := range shapes(boxesOf(p)) {
		n := 0
		switch kind {
		case api.Monomial:
			if slices.Equal(p, q) {
				n = 1
			}
		case api.Schur:
			n = tableaux(p, q)
		default:
			n = ways(kind, p, q)
		}
		f.add(q, big.NewRat(int64(n), 1))
	}
	return f
}

// book keeps polynomials that take long to be made.
type book map[string]polynomial

func (b book) single(kind int, p []int) polynomial {
	key := keyOf(append([]int{kind}, p...))
	if b[key] == nil {
		b[key] = single(kind, p)
	}
	return b[key]
}

// of is the polynomial of a sum.
func (b book) of(t *testing.T, kind int, l []api.Term) polynomial {
	t.Helper()
	f := polynomial{}
	for _, term := range l {
		n := rat(t, term.N)
		g := b.single(kind, term.Part)
		for _, p := range shapes(boxesOf(term.Part)) {
			f.add(p, new(big.Rat).Mul(n, g.at(p)))
		}
	}
	return f
}

// times is the product of two polynomials of these degrees, each product of the one by each of the other.
func (f polynomial) times(g polynomial, degree, other int) polynomial {
	product := polynomial{}
	for _, p := range shapes(degree + other) {
		eachBelow(p, degree, func(list []int) {
			n := new(big.Rat).Mul(f.at(falling(list)), g.at(falling(less(p, list))))
			product.add(p, n)
		})
	}
	return product
}

// rat reads a fraction, and looks whether its text is in lowest terms.
func rat(t *testing.T, text string) *big.Rat {
	t.Helper()
	n, fine := new(big.Rat).SetString(text)
	if !fine || n.RatString() != text {
		t.Fatalf("no fraction in lowest terms: %q", text)
	}
	return n
}

// one is the sum of a single polynomial.
func one(p []int) []api.Term {
	return []api.Term{{Part: p, N: "1"}}
}

// randomFraction has up to so many digits above and below, and is not 0.
func randomFraction(r *rand.Rand, digits int) string {
	most := new(big.Int).Exp(big.NewInt(10), big.NewInt(int64(digits)), nil)
	above, below := new(big.Int).Rand(r, most), new(big.Int).Rand(r, most)
	above.Add(above, big.NewInt(1))
	if r.Intn(2) == 0 {
		above.Neg(above)
	}
	if r.Intn(3) == 0 {
		below.SetInt64(0)
	}
	return new(big.Rat).SetFrac(above, below.Add(below, big.NewInt(1))).RatString()
}

// randomSum has some of the partitions of n, or all.
func randomSum(r *rand.Rand, n, digits int) []api.Term {
	var l []api.Term
	all := r.Intn(3) == 0
	for _, p := range shapes(n) {
		if all || r.Intn(3) == 0 {
			l = append(l, api.Term{Part: p, N: randomFraction(r, digits)})
		}
	}
	return l
}

func sameTerms(a, b []api.Term) bool {
	return slices.EqualFunc(a, b, func(x, y api.Term) bool { return slices.Equal(x.Part, y.Part) && x.N == y.N })
}

// told looks whether what was answered is a sum (but for the length of its texts), and answers it.
func told(t *testing.T, l []api.Term, err api.Errno) []api.Term {
	t.Helper()
	if err != api.OK {
		t.Fatal(err)
	}
	for i, term := range l {
		if rat(t, term.N).Sign() == 0 || parts.Check(term.Part) != api.OK {
			t.Fatal(l)
		}
		if i > 0 && (boxesOf(l[i-1].Part) != boxesOf(term.Part) || slices.Compare(l[i-1].Part, term.Part) <= 0) {
			t.Fatal("out of order:", l)
		}
	}
	return l
}
