package desk

import (
	"maps"
	"slices"
	"strings"

	"ferrers/api"
)

// things is what a desk keeps, by their names (P46).
type things map[string]thing

// names lists all names, in the order of bytes.
func (t things) names() string {
	return strings.Join(slices.Sorted(maps.Keys(t)), blank)
}

// show tells the text of the thing of that name.
func (t things) show(name string) (string, api.Errno) {
	shown, is := t[name]
	if !is {
		return "", api.ErrName
	}
	return shown.text(), api.OK
}

// meant tells the thing that a text stands for: that of the text itself, or what a call makes of others.
func (t things) meant(text string) (thing, api.Errno) {
	if written, is := readThing(text); is {
		return written, api.OK
	}
	words := strings.Split(text, blank)
	called, is := calls()[words[0]]
	names := words[1:]
	if !is || len(names) != called.takes || !areNames(names) {
		return nil, api.ErrSyntax
	}
	of, err := t.of(names)
	if err != api.OK {
		return nil, err
	}
	return called.do(of)
}

// of lists the things of these names.
func (t things) of(names []string) ([]thing, api.Errno) {
	var list []thing
	for _, name := range names {
		kept, is := t[name]
		if !is {
			return nil, api.ErrName
		}
		list = append(list, kept)
	}
	return list, api.OK
}

// areNames tells whether each of these can be a name.
func areNames(list []string) bool {
	for _, s := range list {
		if !isName(s) {
			return false
		}
	}
	return true
}
