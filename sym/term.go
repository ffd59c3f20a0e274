package sym

import (
	"slices"
	"strings"

	"ferrers/api"
	"ferrers/wide"
)

// maxText is how many bytes the text of a fraction that is handed in may have.
const maxText = 200

// inOrder tells whether the partitions of l have one size and stand in parts.All's order,
// none of them twice.
func inOrder(l []api.Term) bool {
	for i := 1; i < len(l); i++ {
		ahead, here := l[i-1].Part, l[i].Part
		if size(ahead) != size(here) || slices.Compare(ahead, here) <= 0 {
			return false
		}
	}
	return true
}

// areFractions tells whether all numbers of l are texts of fractions other than 0.
func areFractions(l []api.Term) bool {
	for _, term := range l {
		if _, _, fine := fraction(term.N); !fine {
			return false
		}
	}
	return true
}

// fraction reads the text of a fraction other than 0, in lowest terms, and tells whether it is one.
func fraction(text string) (over, under wide.Number, fine bool) {
	if len(text) > maxText {
		return over, under, false
	}
	one := wide.Of(1)
	head, tail, divided := strings.Cut(text, "/")
	over, fine = wide.Read(head)
	if !fine || over.IsZero() {
		return over, under, false
	}
	if !divided {
		return over, one, true
	}
	under, fine = wide.Read(tail)
	fine = fine && under.Compare(one) > 0 && over.Common(under).Compare(one) == 0
	return over, under, fine
}

// fractionText tells, in lowest terms, what over is, divided by all numbers of under, which are from 1 on.
func fractionText(over wide.Number, under []wide.Number) string {
	one := wide.Of(1)
	left := one
	for _, divisor := range under {
		// What is over afterwards has nothing in common with what is left of this divisor.
		common := over.Common(divisor)
		over = over.Divided(common)
		left = left.Times(divisor.Divided(common))
	}
	if left.Compare(one) == 0 {
		return over.Text()
	}
	return over.Text() + "/" + left.Text()
}

// degreeOf tells the degree of the sum l, 0 for the list of nothing.
func degreeOf(l []api.Term) int {
	if len(l) == 0 {
		return 0
	}
	return size(l[0].Part)
}

// size tells how many boxes the partition p has.
func size(p []int) int {
	boxes := 0
	for _, part := range p {
		boxes += part
	}
	return boxes
}
