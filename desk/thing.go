package desk

import (
	"strconv"
	"strings"
)

// Limits of a thing that is written in a line.
const (
	maxRows   = 40
	maxLength = 40
	maxNumber = 9999
)

const betweenRows = "/"

// thing is rows of numbers (P46).
type thing [][]int

// text writes the thing (P46).
func (t thing) text() string {
	rows := make([]string, len(t))
	for i, row := range t {
		numbers := make([]string, len(row))
		for j, n := range row {
			numbers[j] = strconv.Itoa(n)
		}
		rows[i] = strings.Join(numbers, blank)
	}
	return strings.Join(rows, betweenRows)
}

// row tells the row that the thing is, if it is one (P46).
func (t thing) row() (row []int, is bool) {
	switch len(t) {
	case 0:
		return nil, true
	case 1:
		return t[0], true
	}
	return nil, false
}

// thingOf makes a thing of a row (P46).
func thingOf(row []int) thing {
	if len(row) == 0 {
		return nil
	}
	return thing{row}
}

// readThing tells the thing of a text, if it is one that may be written in a line (P46).
func readThing(s string) (t thing, is bool) {
	if s == "" {
		return nil, true
	}
	rows := strings.Split(s, betweenRows)
	if len(rows) > maxRows {
		return nil, false
	}
	for _, text := range rows {
		row, is := readRow(text)
		if !is {
			return nil, false
		}
		t = append(t, row)
	}
	return t, true
}

// readRow tells the numbers of a row, of which there is at least one.
func readRow(s string) (row []int, is bool) {
	numbers := strings.Split(s, blank)
	if len(numbers) > maxLength {
		return nil, false
	}
	for _, text := range numbers {
		n, is := readNumber(text)
		if !is {
			return nil, false
		}
		row = append(row, n)
	}
	return row, true
}

// readNumber tells the number of a text. There is one way to write a number, so what is written
// otherwise than it would be told is none.
func readNumber(s string) (n int, is bool) {
	n, err := strconv.Atoi(s)
	return n, err == nil && n >= -maxNumber && n <= maxNumber && strconv.Itoa(n) == s
}
