package desk

import (
	"maps"
	"regexp"
	"slices"
	"strconv"
	"strings"

	"ferrers/api"
	"ferrers/fill"
	"ferrers/hooks"
	"ferrers/insert"
	"ferrers/parts"
	"ferrers/perms"
	"ferrers/signs"
	"ferrers/slides"
)

// model is a desk by the chapter's words: all of it is kept as it was ahead of each line that
// has changed something, things are kept as texts, and lines are told apart by patterns.
type model struct {
	now    map[string]string
	before []map[string]string
	lines  []string
}

func newModel() *model {
	return &model{now: map[string]string{}}
}

const (
	namePattern   = `([a-z]{1,10})`
	numberPattern = `(?:0|-?[1-9][0-9]{0,3})`
	rowPattern    = numberPattern + `(?: ` + numberPattern + `)*`
	thingPattern  = `(|` + rowPattern + `(?:/` + rowPattern + `)*)`
	oneCalls      = `conj|merge|split|inverse|code|uncode|fold|unfold|rounds|unrounds|pee|queue|longest|hooks|` +
		`shape|word|standard|turned|rectify|evacuate|promote|demote|triangle|matrix|gyrate`
	twoCalls = `times|back|meet|join`
)

var (
	showLine  = regexp.MustCompile(`^show ` + namePattern + `$`)
	dropLine  = regexp.MustCompile(`^drop ` + namePattern + `$`)
	thingLine = regexp.MustCompile(`^` + namePattern + ` = ` + thingPattern + `$`)
	oneLine   = regexp.MustCompile(`^` + namePattern + ` = (` + oneCalls + `) ` + namePattern + `$`)
	twoLine   = regexp.MustCompile(`^` + namePattern + ` = (` + twoCalls + `) ` + namePattern + ` ` + namePattern + `$`)
)

// fitsLine tells whether no more is written in a line than P46 allows.
func fitsLine(text string) bool {
	rows := strings.Split(text, "/")
	return len(rows) <= 40 && !slices.ContainsFunc(rows, func(row string) bool { return strings.Count(row, " ") > 39 })
}

func (m *model) do(line string) (string, api.Errno) {
	if len(line) > 400 {
		return "", api.ErrLarge
	}
	if line == "names" {
		return strings.Join(slices.Sorted(maps.Keys(m.now)), " "), api.OK
	}
	if line == "undo" {
		return "", m.undo()
	}
	if s := showLine.FindStringSubmatch(line); s != nil {
		text, is := m.now[s[1]]
		if !is {
			return "", api.ErrName
		}
		return text, api.OK
	}
	if s := dropLine.FindStringSubmatch(line); s != nil {
		if _, is := m.now[s[1]]; !is {
			return "", api.ErrName
		}
		return "", m.change(line, s[1], "", true)
	}
	if s := thingLine.FindStringSubmatch(line); s != nil && fitsLine(s[2]) {
		return m.set(line, s[1], s[2], api.OK)
	}
	if s := oneLine.FindStringSubmatch(line); s != nil {
		text, err := m.called(s[2], s[3], s[3])
		return m.set(line, s[1], text, err)
	}
	if s := twoLine.FindStringSubmatch(line); s != nil {
		text, err := m.called(s[2], s[3], s[4])
		return m.set(line, s[1], text, err)
	}
	return "", api.ErrSyntax
}

func (m *model) undo() api.Errno {
	last := len(m.lines) - 1
	if last < 0 {
		return api.ErrNone
	}
	m.now, m.before, m.lines = m.before[last], m.before[:last], m.lines[:last]
	return api.OK
}

func (m *model) set(line, name, text string, err api.Errno) (string, api.Errno) {
	if err == api.OK {
		err = m.change(line, name, text, false)
	}
	if err != api.OK {
		return "", err
	}
	return text, api.OK
}

func (m *model) change(line, name, text string, away bool) api.Errno {
	after := maps.Clone(m.now)
	if after[name] = text; away {
		delete(after, name)
	}
	if len(after) > 50 || len(m.lines) >= 200 {
		return api.ErrLarge
	}
	m.before, m.lines, m.now = append(m.before, m.now), append(m.lines, line), after
	return api.OK
}

func (m *model) save() string {
	text := ""
	for _, line := range m.lines {
		text += line + "\n"
	}
	return text
}

// called does a call on the things of two names, the second of which is the first, where one is asked for.
func (m *model) called(name, a, b string) (string, api.Errno) {
	first, isFirst := m.now[a]
	second, isSecond := m.now[b]
	if !isFirst || !isSecond {
		return "", api.ErrName
	}
	return answerOf(name, first, second)
}

// isRowCall tells whether a call is one of rows.
func isRowCall(name string) bool {
	return slices.Contains(strings.Fields("conj merge split inverse code uncode fold unfold rounds unrounds pee queue longest hooks times"), name)
}

// answerOf does a call of one or of two texts, by the packages that the chapter names.
func answerOf(name, first, second string) (string, api.Errno) {
	if isRowCall(name) {
		if strings.Contains(first+second, "/") {
			return "", api.ErrShape
		}
		return rowAnswer(name, numbersOf(first), numbersOf(second))
	}
	return thingAnswer(name, rowsOf(first), rowsOf(second))
}

func rowAnswer(name string, a, b []int) (string, api.Errno) {
	switch name {
	case "conj":
		return ofRow(parts.Conjugate(a))
	case "merge":
		return ofRow(parts.Merge(a))
	case "split":
		return ofRow(parts.Split(a))
	case "inverse":
		return ofRow(perms.Inverse(a))
	case "code":
		return ofRow(perms.Code(a))
	case "uncode":
		return ofRow(perms.FromCode(a))
	case "fold":
		return ofRow(perms.Fold(a))
	case "unfold":
		return ofRow(perms.Unfold(a))
	case "rounds":
		return ofRow(perms.Rounds(a))
	case "unrounds":
		return ofRow(perms.Unrounds(a))
	case "longest":
		return ofRow(insert.Longest(a))
	case "times":
		return ofRow(perms.Times(a, b))
	case "hooks":
		return ofRows(hooks.Hooks(a))
	}
	p, q, err := insert.Make(a)
	if name == "pee" {
		return ofRows(p, err)
	}
	return ofRows(q, err)
}

func thingAnswer(name string, a, b [][]int) (string, api.Errno) {
	switch name {
	case "shape":
		return ofRow(fill.Shape(a))
	case "word":
		return ofRow(fill.Word(a))
	case "standard":
		return ofRows(fill.Standard(a))
	case "turned":
		return ofRows(fill.Turned(a))
	case "rectify":
		return ofRows(slides.Rectify(a))
	case "evacuate":
		return ofRows(slides.Evacuate(a))
	case "promote":
		return ofRows(slides.Promote(a))
	case "demote":
		return ofRows(slides.Demote(a))
	case "triangle":
		return ofRows(signs.Triangle(a))
	case "matrix":
		return ofRows(signs.FromTriangle(a))
	case "gyrate":
		return ofRows(signs.Gyrate(a))
	case "back":
		return ofRow(insert.Back(a, b))
	case "meet":
		return ofRows(signs.Meet(a, b))
	}
	return ofRows(signs.Join(a, b))
}

// numbersOf are the numbers of a text of one row, or of none.
func numbersOf(text string) []int {
	var row []int
	for _, s := range strings.Fields(text) {
		n, err := strconv.Atoi(s)
		if err != nil {
			panic(err)
		}
		row = append(row, n)
	}
	return row
}

// rowsOf are the rows of a text.
func rowsOf(text string) [][]int {
	var rows [][]int
	for row := range strings.SplitSeq(text, "/") {
		if text != "" {
			rows = append(rows, numbersOf(row))
		}
	}
	return rows
}

func ofRow(row []int, err api.Errno) (string, api.Errno) {
	text := ""
	for i, n := range row {
		if i > 0 {
			text += " "
		}
		text += strconv.Itoa(n)
	}
	return text, err
}

func ofRows(rows [][]int, err api.Errno) (string, api.Errno) {
	text := ""
	for i, row := range rows {
		if i > 0 {
			text += "/"
		}
		part, _ := ofRow(row, api.OK)
		text += part
	}
	return text, err
}
