package perms

import "ferrers/api"

// Letters tells whether w is a word (P8).
func Letters(w []int) api.Errno {
	if len(w) > api.MaxBoxes {
		return api.ErrLarge
	}
	for _, letter := range w {
		if letter < 1 || letter > api.MaxLetter {
			return api.ErrArg
		}
	}
	return api.OK
}

// Fold makes Foata's word of w (P8).
func Fold(w []int) ([]int, api.Errno) {
	if err := Letters(w); err != api.OK {
		return nil, err
	}
	v := copied(w)
	for n := 1; n < len(v); n++ {
		lastToFront(v[:n], v[n])
	}
	return v, api.OK
}

// Unfold makes the word of which Fold makes w (P8).
func Unfold(w []int) ([]int, api.Errno) {
	if err := Letters(w); err != api.OK {
		return nil, err
	}
	v := copied(w)
	for n := len(v) - 1; n > 0; n-- {
		firstToBack(v[:n], v[n])
	}
	return v, api.OK
}

// lastToFront turns each block of v, which has letters in it, before x comes to its end.
func lastToFront(v []int, x int) {
	low := v[len(v)-1] <= x
	start := 0
	for i, letter := range v {
		if (letter <= x) == low {
			copy(v[start+1:i+1], v[start:i])
			v[start] = letter
			start = i + 1
		}
	}
}

// firstToBack undoes lastToFront: what ended a block begins it by now, so v's first letter
// tells which kind of letters the cuts were made at.
func firstToBack(v []int, x int) {
	low := v[0] <= x
	end := len(v)
	for i := len(v) - 1; i >= 0; i-- {
		if letter := v[i]; (letter <= x) == low {
			copy(v[i:end-1], v[i+1:end])
			v[end-1] = letter
			end = i
		}
	}
}
