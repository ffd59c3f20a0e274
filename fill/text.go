package fill

import (
	"strconv"
	"strings"

	"ferrers/api"
)

// The texts that stand between two rows, and between two letters of a row.
const (
	betweenRows    = "/"
	betweenLetters = " "
)

// Write tells the text of t (P11).
func Write(t [][]int) (string, api.Errno) {
	if err := Check(t); err != api.OK {
		return "", err
	}
	rows := make([]string, len(t))
	for i, row := range t {
		letters := make([]string, len(row))
		for j, letter := range row {
			letters[j] = strconv.Itoa(letter)
		}
		rows[i] = strings.Join(letters, betweenLetters)
	}
	return strings.Join(rows, betweenRows), api.OK
}

// Read tells the tableau of a text (P11).
func Read(s string) ([][]int, api.Fault) {
	if at := wrongByte(s); at >= 0 {
		return nil, api.Fault{Code: api.ErrSyntax, At: at}
	}
	if s == "" {
		return nil, api.Fault{}
	}
	// Each letter but the last has one of these behind it. What Check would say of too many
	// is said ahead of making rows of them: a long text needs no more room than a short one.
	if strings.Count(s, betweenRows)+strings.Count(s, betweenLetters) >= api.MaxBoxes {
		return nil, api.Fault{Code: api.ErrLarge, At: -1}
	}
	t := rowsOf(s)
	if err := Check(t); err != api.OK {
		return nil, api.Fault{Code: err, At: -1}
	}
	return t, api.Fault{}
}

// wrongByte tells the first byte with which the text can not go on, or -1 if there is none.
func wrongByte(s string) int {
	digits := 0
	for i := range len(s) {
		switch {
		case isNextDigit(s[i], digits):
			digits++
		case digits > 0 && (s[i] == betweenRows[0] || s[i] == betweenLetters[0]):
			digits = 0
		default:
			return i
		}
	}
	if digits == 0 && s != "" {
		return len(s)
	}
	return -1
}

// isNextDigit tells whether a letter that has so many digits goes on with c.
func isNextDigit(c byte, digits int) bool {
	switch digits {
	case 0:
		return '1' <= c && c <= '9'
	case 1:
		return '0' <= c && c <= '9'
	}
	return false
}

// rowsOf makes the rows of a text in which no byte is wrong, and which is not empty.
func rowsOf(s string) [][]int {
	var t [][]int
	for _, text := range strings.Split(s, betweenRows) {
		var row []int
		for _, digits := range strings.Split(text, betweenLetters) {
			letter, _ := strconv.Atoi(digits)
			row = append(row, letter)
		}
		t = append(t, row)
	}
	return t
}
