package sym

import (
	"slices"

	"ferrers/api"
	"ferrers/parts"
	"ferrers/wide"
)

// sum is a sum of some kind, to be reckoned with: all its fractions have the same divisors,
// and are in lowest terms only once they are told.
type sum struct {
	degree int
	// shapes are the partitions of the degree, in parts.All's order.
	shapes [][]int
	// over holds a number for each of the shapes; each is to be divided by all numbers of under.
	over, under []wide.Number
}

// nothing is the sum of a degree that is 0.
func nothing(degree int) sum {
	shapes := shapesOf(degree)
	return sum{degree: degree, shapes: shapes, over: make([]wide.Number, len(shapes))}
}

// shapesOf lists the partitions of the degree.
func shapesOf(degree int) [][]int {
	// No degree is too great to be listed.
	shapes, _ := parts.All(degree)
	return shapes
}

// place tells which of the shapes p is.
func place(p []int, shapes [][]int) int {
	return slices.IndexFunc(shapes, func(q []int) bool { return slices.Equal(p, q) })
}

// read makes a sum of a list that is one.
func read(l []api.Term) sum {
	s := nothing(degreeOf(l))
	for _, term := range l {
		over, under, _ := fraction(term.N)
		// What is there so far gets the new divisor, and what is new the others.
		for i, n := range s.over {
			s.over[i] = n.Times(under)
		}
		for _, divisor := range s.under {
			over = over.Times(divisor)
		}
		s.over[place(term.Part, s.shapes)] = over
		s.under = append(s.under, under)
	}
	return s
}

// terms tells the sum as a list.
func (s sum) terms() []api.Term {
	var l []api.Term
	for i, n := range s.over {
		if !n.IsZero() {
			l = append(l, api.Term{Part: s.shapes[i], N: fractionText(n, s.under)})
		}
	}
	return l
}

// times multiplies two sums of one kind, in which the product of two polynomials is that
// of the parts of both.
func (s sum) times(other sum) sum {
	product := nothing(s.degree + other.degree)
	product.under = slices.Concat(s.under, other.under)
	for i, n := range s.over {
		for j, m := range other.over {
			k := place(merged(s.shapes[i], other.shapes[j]), product.shapes)
			product.over[k] = product.over[k].Plus(n.Times(m))
		}
	}
	return product
}

// merged answers the partition of the parts of both.
func merged(p, q []int) []int {
	all := slices.Concat(p, q)
	slices.SortFunc(all, func(a, b int) int { return b - a })
	return all
}

// converted writes the sum, which is one of the kind from, as one of the kind to.
func (s sum) converted(from, to int) sum {
	if from == to {
		return s
	}
	result := nothing(s.degree)
	result.under = slices.Concat(s.under, []wide.Number{wide.Of(divisorOf(to, s.degree))})
	var duals []schurs
	for _, p := range s.shapes {
		duals = append(duals, dualOf(to, p))
	}
	for i, n := range s.over {
		if n.IsZero() {
			continue
		}
		polynomial := schursOf(from, s.shapes[i])
		for j, dual := range duals {
			times := wide.Of(polynomial.inner(dual))
			result.over[j] = result.over[j].Plus(n.Times(times))
		}
	}
	return result
}
