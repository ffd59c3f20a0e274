package sym

import (
	"slices"

	"ferrers/api"
)

// powers are the exponents of the variables in a product, or the parts of a partition and noughts behind them.
type powers [api.MaxDegree]int

// schurs is a sum of Schur's polynomials: how often that of each partition stands in it.
type schurs map[powers]int

// padded puts noughts behind the parts of p, which are not too many.
func padded(p []int) powers {
	var list powers
	copy(list[:], p)
	return list
}

// schursOf writes the kind's polynomial of p by Schur's.
func schursOf(kind int, p []int) schurs {
	all := schurs{powers{}: 1}
	// So many variables are enough to tell Schur's polynomials of this degree apart.
	variables := size(p)
	switch kind {
	case api.Schur:
		return schurs{padded(p): 1}
	case api.Monomial:
		return all.times(p, variables)
	case api.Complete:
		return schursOf(api.Elementary, p).turned()
	}
	for _, part := range p {
		all = all.times(factor(kind, part), variables)
	}
	return all
}

// dualOf answers a polynomial by Schur's. Hall's product of it and of any polynomial of the same degree, divided by
// divisorOf, is the number that the kind's polynomial of p has in the sum that the other one is (HALL).
func dualOf(kind int, p []int) schurs {
	switch kind {
	case api.Monomial:
		return schursOf(api.Complete, p)
	case api.Complete:
		return schursOf(api.Monomial, p)
	case api.Elementary:
		// Omega makes complete ones of them, and leaves Hall's products as they are.
		return schursOf(api.Monomial, p).turned()
	case api.Power:
		// Two that are not the same have the product 0, but one and itself not 1.
		s := schursOf(api.Power, p)
		return s.scaled(divisorOf(api.Power, size(p)) / s.inner(s))
	}
	return schursOf(kind, p)
}

// divisorOf tells by what Hall's products with dualOf are to be divided. For power sums it is
// the factorial of the degree, which Hall's product of each with itself divides.
func divisorOf(kind, degree int) int {
	divisor := 1
	if kind == api.Power {
		for n := range degree {
			divisor *= n + 1
		}
	}
	return divisor
}

// factor answers the exponents in the products of which an elementary polynomial or a power sum
// of one part is the sum.
func factor(kind, part int) []int {
	if kind == api.Power {
		return []int{part}
	}
	return slices.Repeat([]int{1}, part)
}

// times multiplies the sum by that of all unlike products of so many variables with these exponents, in any order.
// Schur's polynomial is an alternating one divided by the least alternating one (JACOBI), and an alternating one
// times a symmetric one is made by adding the exponents of each product of this to those of that.
func (s schurs) times(exponents []int, variables int) schurs {
	product := schurs{}
	eachOrder(exponents, variables, func(list powers) {
		for p, n := range s {
			if q, sign := straightened(p, list, variables); sign != 0 {
				product[q] += sign * n
			}
		}
	})
	return product
}

// turned is what Omega makes of the sum: Schur's polynomials of the conjugate partitions.
func (s schurs) turned() schurs {
	list := schurs{}
	for p, n := range s {
		list[p.conjugate()] = n
	}
	return list
}

// scaled has each polynomial so many times as often.
func (s schurs) scaled(times int) schurs {
	list := schurs{}
	for p, n := range s {
		list[p] = n * times
	}
	return list
}

// inner tells Hall's product.
func (s schurs) inner(other schurs) int {
	all := 0
	for p, n := range s {
		all += n * other[p]
	}
	return all
}

// conjugate tells for each column how many parts reach it.
func (p powers) conjugate() powers {
	var list powers
	for _, part := range p {
		for column := range part {
			list[column]++
		}
	}
	return list
}

// straightened adds both and tells of which partition, and with which sign, Schur's polynomial with
// these exponents is; the sign 0, if it is 0, since two of the alternating one's exponents are the same.
func straightened(p, added powers, variables int) (powers, int) {
	var list powers
	sign := 1
	for i := range variables {
		// The alternating one has as many more as variables follow, so that falling exponents
		// are those of a partition.
		exponent := p[i] + added[i] + variables - 1 - i
		at := i
		for ; at > 0 && list[at-1] <= exponent; at-- {
			if list[at-1] == exponent {
				return powers{}, 0
			}
			list[at] = list[at-1]
			sign = -sign
		}
		list[at] = exponent
	}
	for i := range variables {
		list[i] -= variables - 1 - i
	}
	return list, sign
}

// eachOrder hands on all unlike orders of the exponents, with noughts for the other variables.
func eachOrder(exponents []int, variables int, do func(list powers)) {
	var left [api.MaxDegree + 1]int
	for _, exponent := range exponents {
		left[exponent]++
	}
	left[0] = variables - len(exponents)
	var list powers
	var put func(variable int)
	put = func(variable int) {
		if variable == variables {
			do(list)
			return
		}
		for exponent := range left {
			if left[exponent] > 0 {
				left[exponent]--
				list[variable] = exponent
				put(variable + 1)
				left[exponent]++
			}
		}
	}
	put(0)
}
