package wide

// Quotient tells in decimal digits what the product of over is, divided by that of under.
// The numbers are from 0 on, those of under from 1 on; nothing may be left over in the division.
func Quotient(over, under []int) string {
	product := Of(1)
	for _, factor := range lowered(over, under) {
		product = product.Times(Of(factor))
	}
	return product.Text()
}

// lowered answers the numbers of over, lowered until their product is the quotient.
// What each number of under has in common with each of over is taken out of both: as nothing
// may be left over in the division, 1 is what becomes of all of under.
func lowered(over, under []int) []int {
	left := make([]int, len(over))
	copy(left, over)
	for _, divisor := range under {
		for i, factor := range left {
			common := greatestCommon(factor, divisor)
			left[i] = factor / common
			divisor /= common
		}
	}
	return left
}

// greatestCommon tells the greatest common divisor, one of both being above 0.
func greatestCommon(a, b int) int {
	for b != 0 {
		a, b = b, a%b
	}
	return a
}
