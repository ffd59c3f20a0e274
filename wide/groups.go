package wide

import (
	"slices"
	"strconv"
	"strings"
)

// The product of two groups of so many digits, and what is carried, fit into 64 bits.
const (
	groupDigits = 9
	groupSize   = 1000000000
)

// groups is a whole number from 0 on: groups of decimal digits, the lowest group first,
// the highest one not all noughts; so 0 has none.
type groups []uint64

// groupsOf answers n in groups.
func groupsOf(n uint64) groups {
	var g groups
	for ; n > 0; n /= groupSize {
		g = append(g, n%groupSize)
	}
	return g
}

// read answers the number of the digits, which do not begin with a nought.
func read(digits string) groups {
	g := make(groups, 0, len(digits)/groupDigits+1)
	for end := len(digits); end > 0; end -= groupDigits {
		// Digits alone, and so few, are always a number.
		group, _ := strconv.ParseUint(digits[max(end-groupDigits, 0):end], 10, 64)
		g = append(g, group)
	}
	return g
}

// text tells the number in decimal digits.
func (g groups) text() string {
	if len(g) == 0 {
		return "0"
	}
	var b strings.Builder
	for i := len(g) - 1; i >= 0; i-- {
		digits := strconv.FormatUint(g[i], 10)
		if i < len(g)-1 {
			b.WriteString(strings.Repeat("0", groupDigits-len(digits)))
		}
		b.WriteString(digits)
	}
	return b.String()
}

// trimmed answers the groups without those at the high end that are all noughts.
func (g groups) trimmed() groups {
	for len(g) > 0 && g[len(g)-1] == 0 {
		g = g[:len(g)-1]
	}
	return g
}

// compare answers a number below 0, 0 or one above 0, as g is below h, the same or above it.
func (g groups) compare(h groups) int {
	if len(g) != len(h) {
		return len(g) - len(h)
	}
	for i := len(g) - 1; i >= 0; i-- {
		if g[i] < h[i] {
			return -1
		}
		if g[i] > h[i] {
			return 1
		}
	}
	return 0
}

// plus answers the sum.
func (g groups) plus(h groups) groups {
	if len(g) < len(h) {
		g, h = h, g
	}
	sum := make(groups, 0, len(g)+1)
	carried := uint64(0)
	for i, group := range g {
		carried += group
		if i < len(h) {
			carried += h[i]
		}
		sum = append(sum, carried%groupSize)
		carried /= groupSize
	}
	return append(sum, carried).trimmed()
}

// minus answers what is left of g without h, which is not above g.
func (g groups) minus(h groups) groups {
	left := slices.Clone(g)
	left.lower(h, 1)
	return left.trimmed()
}

// times answers the product.
func (g groups) times(h groups) groups {
	product := make(groups, len(g)+len(h))
	for i, group := range g {
		carried := uint64(0)
		for j, other := range h {
			carried += product[i+j] + group*other
			product[i+j] = carried % groupSize
			carried /= groupSize
		}
		product[i+len(h)] = carried
	}
	return product.trimmed()
}

// lower takes h, so many times, out of g itself, which is not below that.
func (g groups) lower(h groups, times uint64) {
	owed := uint64(0)
	for i := range g {
		if i < len(h) {
			owed += h[i] * times
		}
		lent := uint64(0)
		if g[i] < owed%groupSize {
			lent = 1
		}
		g[i] += lent*groupSize - owed%groupSize
		owed = owed/groupSize + lent
	}
}
