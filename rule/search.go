package rule

// box is where a letter stands.
type box struct {
	row, column int
}

// search goes through right fillings: it puts letters into the boxes in the order in which
// they are read, so that a letter that may not be read there is given up at once.
type search struct {
	boxes []box
	rows  [][]int
	// wanted and used tell of each letter how often it stands in a right filling, and how often
	// it stands in the rows so far; there is no letter 0.
	wanted, used []int
	// found is called with the rows of each right filling, which are written over behind it.
	found func(rows [][]int)
}

// eachFilling hands the right fillings for a, b and c on, in no order.
func eachFilling(a, b, c []int, found func(rows [][]int)) {
	if size(a)+size(b) != size(c) || !contains(c, a) {
		return
	}
	s := search{
		rows:   make([][]int, len(c)),
		wanted: append([]int{0}, b...),
		used:   make([]int, len(b)+1),
		found:  found,
	}
	for i, part := range c {
		s.rows[i] = make([]int, part)
		for j := part - 1; j >= partAt(a, i); j-- {
			s.boxes = append(s.boxes, box{i, j})
		}
	}
	s.from(0)
}

// from fills the boxes from number k on, in each way that is right.
func (s *search) from(k int) {
	if k == len(s.boxes) {
		s.found(s.rows)
		return
	}
	at := s.boxes[k]
	for letter := s.least(at); letter <= s.greatest(at); letter++ {
		if !s.mayCome(letter) {
			continue
		}
		s.rows[at.row][at.column] = letter
		s.used[letter]++
		s.from(k + 1)
		s.used[letter]--
	}
}

// least tells the least letter that may stand below what is above the box; a hole is 0.
func (s *search) least(at box) int {
	if at.row == 0 {
		return 1
	}
	return s.rows[at.row-1][at.column] + 1
}

// greatest tells the greatest letter that may stand left of what is right of the box.
func (s *search) greatest(at box) int {
	row := s.rows[at.row]
	if at.column+1 == len(row) {
		return len(s.wanted) - 1
	}
	return row[at.column+1]
}

// mayCome tells whether the letter is still wanted, and may be read behind those so far.
func (s *search) mayCome(letter int) bool {
	if s.used[letter] == s.wanted[letter] {
		return false
	}
	return letter == 1 || s.used[letter] < s.used[letter-1]
}
