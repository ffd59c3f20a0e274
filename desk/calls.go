package desk

import (
	"ferrers/api"
	"ferrers/fill"
	"ferrers/hooks"
	"ferrers/insert"
	"ferrers/parts"
	"ferrers/perms"
	"ferrers/signs"
	"ferrers/slides"
)

// call is what a line can make of things: of how many, and how.
type call struct {
	takes int
	do    func(of []thing) (thing, api.Errno)
}

// calls holds all calls, by their names (P47).
func calls() map[string]call {
	return map[string]call{
		"conj":     rowToRow(parts.Conjugate),
		"merge":    rowToRow(parts.Merge),
		"split":    rowToRow(parts.Split),
		"inverse":  rowToRow(perms.Inverse),
		"code":     rowToRow(perms.Code),
		"uncode":   rowToRow(perms.FromCode),
		"fold":     rowToRow(perms.Fold),
		"unfold":   rowToRow(perms.Unfold),
		"rounds":   rowToRow(perms.Rounds),
		"unrounds": rowToRow(perms.Unrounds),
		"pee":      rowToThing(pee),
		"queue":    rowToThing(queue),
		"longest":  rowToRow(insert.Longest),
		"hooks":    rowToThing(hooks.Hooks),
		"shape":    thingToRow(fill.Shape),
		"word":     thingToRow(fill.Word),
		"standard": thingToThing(fill.Standard),
		"turned":   thingToThing(fill.Turned),
		"rectify":  thingToThing(slides.Rectify),
		"evacuate": thingToThing(slides.Evacuate),
		"promote":  thingToThing(slides.Promote),
		"demote":   thingToThing(slides.Demote),
		"triangle": thingToThing(signs.Triangle),
		"matrix":   thingToThing(signs.FromTriangle),
		"gyrate":   thingToThing(signs.Gyrate),
		"times":    twoRowsToRow(perms.Times),
		"back":     twoThingsToRow(insert.Back),
		"meet":     twoThingsToThing(signs.Meet),
		"join":     twoThingsToThing(signs.Join),
	}
}

// pee tells P of a word alone.
func pee(w []int) ([][]int, api.Errno) {
	p, _, err := insert.Make(w)
	return p, err
}

// queue tells Q of a word alone.
func queue(w []int) ([][]int, api.Errno) {
	_, q, err := insert.Make(w)
	return q, err
}

func rowToRow(do func([]int) ([]int, api.Errno)) call {
	return rowToThing(func(row []int) ([][]int, api.Errno) {
		made, err := do(row)
		return thingOf(made), err
	})
}

func rowToThing(do func([]int) ([][]int, api.Errno)) call {
	return call{1, func(of []thing) (thing, api.Errno) {
		row, is := of[0].row()
		if !is {
			return nil, api.ErrShape
		}
		return do(row)
	}}
}

func thingToRow(do func([][]int) ([]int, api.Errno)) call {
	return call{1, func(of []thing) (thing, api.Errno) {
		made, err := do(of[0])
		return thingOf(made), err
	}}
}

func thingToThing(do func([][]int) ([][]int, api.Errno)) call {
	return call{1, func(of []thing) (thing, api.Errno) {
		return do(of[0])
	}}
}

func twoRowsToRow(do func(a, b []int) ([]int, api.Errno)) call {
	return call{2, func(of []thing) (thing, api.Errno) {
		a, isA := of[0].row()
		b, isB := of[1].row()
		if !isA || !isB {
			return nil, api.ErrShape
		}
		made, err := do(a, b)
		return thingOf(made), err
	}}
}

func twoThingsToRow(do func(a, b [][]int) ([]int, api.Errno)) call {
	return call{2, func(of []thing) (thing, api.Errno) {
		made, err := do(of[0], of[1])
		return thingOf(made), err
	}}
}

func twoThingsToThing(do func(a, b [][]int) ([][]int, api.Errno)) call {
	return call{2, func(of []thing) (thing, api.Errno) {
		return do(of[0], of[1])
	}}
}
