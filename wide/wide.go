// Package wide: whole numbers that are too great for a machine word.
package wide

import (
	"strconv"
	"strings"
)

// A group of this many digits times a factor below 2^32, and what is carried, fit into 64 bits.
const (
	groupDigits = 9
	groupSize   = 1000000000
)

// number is a whole number from 0 on: groups of decimal digits, the lowest group first,
// none but 0 with a highest group of noughts.
type number []uint64

// Quotient tells in decimal digits what the product of over is, divided by that of under.
// The numbers are below 2^32, those of over from 0 on, those of under from 1 on;
// nothing may be left over in the division.
func Quotient(over, under []int) string {
	product := number{1}
	for _, factor := range lowered(over, under) {
		product = product.times(uint64(factor))
	}
	return product.text()
}

// lowered answers the numbers of over, lowered until their product is the quotient.
// What each number of under has in common with each of over is taken out of both: as nothing
// may be left over in the division, 1 is what becomes of all of under.
func lowered(over, under []int) []int {
	left := make([]int, len(over))
	copy(left, over)
	for _, divisor := range under {
		for i, factor := range left {
			common := greatestCommon(factor, divisor)
			left[i] = factor / common
			divisor /= common
		}
	}
	return left
}

// greatestCommon tells the greatest common divisor, one of both being above 0.
func greatestCommon(a, b int) int {
	for b != 0 {
		a, b = b, a%b
	}
	return a
}

// times answers the product as a new number.
func (n number) times(factor uint64) number {
	if factor == 0 {
		return number{0}
	}
	product := make(number, 0, len(n)+2)
	carried := uint64(0)
	for _, group := range n {
		carried += group * factor
		product = append(product, carried%groupSize)
		carried /= groupSize
	}
	for ; carried > 0; carried /= groupSize {
		product = append(product, carried%groupSize)
	}
	return product
}

// text tells the number in decimal digits.
func (n number) text() string {
	var b strings.Builder
	for i := len(n) - 1; i >= 0; i-- {
		digits := strconv.FormatUint(n[i], 10)
		if i < len(n)-1 {
			b.WriteString(strings.Repeat("0", groupDigits-len(digits)))
		}
		b.WriteString(digits)
	}
	return b.String()
}
