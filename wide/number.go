// Package wide: whole numbers that are too great for a machine word.
package wide

// Number is a whole number of any size; its zero value is 0. It is never changed once it is made.
type Number struct {
	// below tells whether the number is below 0, which 0 itself is not.
	below bool
	size  groups
}

// Of answers n as a Number.
func Of(n int) Number {
	size := uint64(n)
	if n < 0 {
		// This goes round to the right size for the least of all numbers as well.
		size = -size
	}
	return Number{n < 0, groupsOf(size)}
}

// Read reads decimal digits without noughts ahead, behind a `-` if the number is below 0,
// and tells whether the text was nothing else.
func Read(text string) (Number, bool) {
	digits, below := text, false
	if len(text) > 0 && text[0] == '-' {
		digits, below = text[1:], true
	}
	if !areDigits(digits) {
		return Number{}, false
	}
	if digits[0] == '0' {
		return Number{}, text == "0"
	}
	return Number{below, read(digits)}, true
}

// areDigits tells whether there is at least one digit, and nothing else.
func areDigits(text string) bool {
	for i := range len(text) {
		if text[i] < '0' || text[i] > '9' {
			return false
		}
	}
	return len(text) > 0
}

// IsZero tells whether the number is 0.
func (n Number) IsZero() bool {
	return len(n.size) == 0
}

// Compare answers a number below 0, 0 or one above 0, as n is below m, the same or above it.
func (n Number) Compare(m Number) int {
	switch {
	case n.below && !m.below:
		return -1
	case !n.below && m.below:
		return 1
	case n.below:
		return m.size.compare(n.size)
	}
	return n.size.compare(m.size)
}

// Plus answers the sum.
func (n Number) Plus(m Number) Number {
	if n.below == m.below {
		return Number{n.below, n.size.plus(m.size)}
	}
	switch order := n.size.compare(m.size); {
	case order > 0:
		return Number{n.below, n.size.minus(m.size)}
	case order < 0:
		return Number{m.below, m.size.minus(n.size)}
	}
	return Number{}
}

// Times answers the product.
func (n Number) Times(m Number) Number {
	size := n.size.times(m.size)
	return Number{n.below != m.below && len(size) > 0, size}
}

// Divided answers the quotient; m is not 0. What is left over is dropped.
func (n Number) Divided(m Number) Number {
	size, _ := n.size.divided(m.size)
	return Number{n.below != m.below && len(size) > 0, size}
}

// Common answers the greatest common divisor, from 0 on; 0 has all divisors.
func (n Number) Common(m Number) Number {
	a, b := n.size, m.size
	for len(b) > 0 {
		_, rest := a.divided(b)
		a, b = b, rest
	}
	return Number{false, a}
}

// Text tells the number in decimal digits, behind a `-` if it is below 0.
func (n Number) Text() string {
	if n.below {
		return "-" + n.size.text()
	}
	return n.size.text()
}
