package paths

import "ferrers/api"

const (
	maxPairs = 30
	maxBytes = 2 * maxPairs
)

// endings tells, by how many bytes are left and how many brackets are open, in how many ways a text can end right.
type endings [maxBytes + 1][maxBytes + 2]int64

// allEndings reckons them from the shortest on.
func allEndings() *endings {
	var count endings
	count[0][0] = 1
	for left := 1; left <= maxBytes; left++ {
		for open := range maxBytes + 1 {
			count[left][open] = count[left-1][open+1]
			if open > 0 {
				count[left][open] += count[left-1][open-1]
			}
		}
	}
	return &count
}

// Catalan tells how many right texts of n pairs there are (P31).
func Catalan(n int) (int64, api.Errno) {
	if n < 0 || n > maxPairs {
		return 0, api.ErrArg
	}
	return allEndings()[2*n][0], api.OK
}

// Rank tells how many right texts come ahead of s (P31).
func Rank(s string) (int64, api.Errno) {
	if len(s) > maxBytes {
		return 0, api.ErrLarge
	}
	if !isRight(s) {
		return 0, api.ErrArg
	}
	count := allEndings()
	rank, open := int64(0), 0
	for i := range len(s) {
		if s[i] == '(' {
			open++
			continue
		}
		// All texts that are the same so far, but open one here, come ahead.
		rank += count[len(s)-i-1][open+1]
		open--
	}
	return rank, api.OK
}

// isRight tells whether s is a right text.
func isRight(s string) bool {
	open := 0
	for i := range len(s) {
		step := stepOf(s[i])
		open += step
		if step == 0 || open < 0 {
			return false
		}
	}
	return open == 0
}

// stepOf tells by how much a byte makes more open; 0, if it is no bracket.
func stepOf(b byte) int {
	switch b {
	case '(':
		return 1
	case ')':
		return -1
	}
	return 0
}

// Unrank tells the right text of so many pairs that has that rank (P31).
func Unrank(pairs int, rank int64) (string, api.Errno) {
	if pairs < 0 || pairs > maxPairs {
		return "", api.ErrArg
	}
	count := allEndings()
	if rank < 0 || rank >= count[2*pairs][0] {
		return "", api.ErrArg
	}
	text := make([]byte, 0, 2*pairs)
	open := 0
	for left := 2*pairs - 1; left >= 0; left-- {
		ahead := count[left][open+1]
		if rank < ahead {
			text = append(text, '(')
			open++
			continue
		}
		text = append(text, ')')
		rank -= ahead
		open--
	}
	return string(text), api.OK
}

// Turns tells from which places on s is read so that after each byte more have opened than closed (P31).
func Turns(s string) ([]int, api.Errno) {
	if len(s) > maxBytes {
		return nil, api.ErrLarge
	}
	for i := range len(s) {
		if stepOf(s[i]) == 0 {
			return nil, api.ErrArg
		}
	}
	var places []int
	for i := range len(s) {
		if staysOpen(s[i:] + s[:i]) {
			places = append(places, i)
		}
	}
	return places, api.OK
}

// staysOpen tells whether after each byte more have opened than closed.
func staysOpen(s string) bool {
	open := 0
	for i := range len(s) {
		open += stepOf(s[i])
		if open <= 0 {
			return false
		}
	}
	return true
}
