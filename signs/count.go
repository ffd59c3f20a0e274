package signs

import (
	"ferrers/api"
	"ferrers/wide"
)

const (
	maxCountRows = 30
	maxListRows  = 5
)

// Count tells how many matrices of n rows there would be (P38).
func Count(n int) (string, api.Errno) {
	if n < 1 || n > maxCountRows {
		return "", api.ErrArg
	}
	var over, under []int
	for k := range n {
		// Of two factorials the greater one alone leaves factors, those that the other one lacks.
		over = appendSpan(over, n+k+1, 3*k+1)
		under = appendSpan(under, 3*k+2, n+k)
	}
	return wide.Quotient(over, under), api.OK
}

// appendSpan appends the numbers from the first to the last one; none, if the last is below the first.
func appendSpan(l []int, first, last int) []int {
	for n := first; n <= last; n++ {
		l = append(l, n)
	}
	return l
}

// All lists the matrices of n rows (P38).
func All(n int) ([][][]int, api.Errno) {
	if n < 1 || n > maxListRows {
		return nil, api.ErrArg
	}
	var list [][][]int
	soFar := noughts(n)
	var rows, columns [maxListRows]int
	var put func(place int)
	put = func(place int) {
		if place == n*n {
			list = append(list, copied(soFar))
			return
		}
		i, j := place/n, place%n
		for sign := -1; sign <= 1; sign++ {
			if !mayCome(rows[i]+sign, j == n-1) || !mayCome(columns[j]+sign, i == n-1) {
				continue
			}
			soFar[i][j] = sign
			rows[i] += sign
			columns[j] += sign
			put(place + 1)
			rows[i] -= sign
			columns[j] -= sign
		}
	}
	put(0)
	return list, api.OK
}

// copied answers the matrix in new memory.
func copied(m [][]int) [][]int {
	other := noughts(len(m))
	for i, row := range m {
		copy(other[i], row)
	}
	return other
}
