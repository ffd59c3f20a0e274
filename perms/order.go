package perms

import "ferrers/api"

// Word takes the first descent away again and again, and tells where each was (P7).
func Word(p []int) ([]int, api.Errno) {
	if err := Check(p); err != api.OK {
		return nil, err
	}
	rest := copied(p)
	var word []int
	for i := firstDescent(rest); i > 0; i = firstDescent(rest) {
		swap(rest, i)
		word = append(word, i)
	}
	return word, api.OK
}

// Product makes the permutation of n that the word stands for (P7).
func Product(n int, word []int) ([]int, api.Errno) {
	if n < 0 || n > api.MaxBoxes {
		return nil, api.ErrArg
	}
	for _, i := range word {
		if i < 1 || i >= n {
			return nil, api.ErrArg
		}
	}
	p := inOrder(n)
	for k := len(word) - 1; k >= 0; k-- {
		swap(p, word[k])
	}
	return p, api.OK
}

// Below tells whether a is at most b in Bruhat's order (P7).
func Below(a, b []int) (bool, api.Errno) {
	if err := checkTwo(a, b); err != api.OK {
		return false, err
	}
	// By how many more of b's numbers so far than of a's are at least k, at k-1.
	lead := make([]int, len(a))
	for i := range a {
		for k := range b[i] {
			lead[k]++
		}
		for k := range a[i] {
			lead[k]--
		}
		for _, more := range lead {
			if more < 0 {
				return false, api.OK
			}
		}
	}
	return true, api.OK
}

// firstDescent answers 0 if there is none.
func firstDescent(p []int) int {
	for i := 1; i < len(p); i++ {
		if p[i-1] > p[i] {
			return i
		}
	}
	return 0
}

// swap lets what stands at the places i and i + 1, counted from 1 on, change places.
func swap(p []int, i int) {
	p[i-1], p[i] = p[i], p[i-1]
}
