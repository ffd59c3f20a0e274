package desk

import "strings"

// What lines are made of.
const (
	lineNames = "names"
	lineUndo  = "undo"
	wordShow  = "show"
	wordDrop  = "drop"
	blank     = " "
	becomes   = " = "
)

const maxName = 10

// nameBehind tells the name of a line that is this word and a name.
func nameBehind(line, word string) (name string, is bool) {
	first, name, _ := strings.Cut(line, blank)
	return name, first == word && isName(name)
}

// named tells the name of a line `NAME = ..`, and the text behind it.
func named(line string) (name, text string, is bool) {
	name, text, is = strings.Cut(line, becomes)
	return name, text, is && isName(name)
}

// isNeverSaved tells whether a line is one of those that are not written down, whatever they do.
func isNeverSaved(line string) bool {
	_, shows := nameBehind(line, wordShow)
	return shows || line == lineNames || line == lineUndo
}

// isName tells whether s can be a thing's name (P46).
func isName(s string) bool {
	if len(s) < 1 || len(s) > maxName {
		return false
	}
	for k := range len(s) {
		if s[k] < 'a' || s[k] > 'z' {
			return false
		}
	}
	return true
}
