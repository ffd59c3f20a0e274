package fill

import (
	"runtime"
	"slices"
	"testing"

	"ferrers/api"
)

// input of any call: each takes of it what it needs.
type input struct {
	rows [][]int
	list []int
	most int
	text string
}

// answer of any call: its lists, however deep, and the rest of it.
type answer struct {
	list     []int
	rows     [][]int
	tableaux [][][]int
	yes      bool
	text     string
	fault    api.Fault
}

func (a answer) same(b answer) bool {
	return slices.Equal(a.list, b.list) && sameRows(a.rows, b.rows) && sameLists(a.tableaux, b.tableaux) &&
		a.yes == b.yes && a.text == b.text && a.fault == b.fault
}

// clone keeps what was answered apart from what is scribbled over later.
func (a answer) clone() answer {
	a.list = slices.Clone(a.list)
	a.rows = cloneRows(a.rows)
	a.tableaux = slices.Clone(a.tableaux)
	for i, t := range a.tableaux {
		a.tableaux[i] = cloneRows(t)
	}
	return a
}

func cloneRows(t [][]int) [][]int {
	t = slices.Clone(t)
	for i, row := range t {
		t[i] = slices.Clone(row)
	}
	return t
}

// numbers lists the lists of numbers of an answer, and rowLists those of rows.
func (a answer) numbers() [][]int {
	lists := append([][]int{a.list}, a.rows...)
	return append(lists, slices.Concat(a.tableaux...)...)
}

func (a answer) rowLists() [][][]int {
	return append([][][]int{a.rows}, a.tableaux...)
}

type call struct {
	name string
	do   func(in input) answer
}

func code(err api.Errno) api.Fault { return api.Fault{Code: err} }

// toList makes a call of one that takes a tableau and answers a list, toRows of one that answers rows.
func toList(name string, do func([][]int) ([]int, api.Errno)) call {
	return call{name, func(in input) answer {
		list, err := do(in.rows)
		return answer{list: list, fault: code(err)}
	}}
}

func toRows(name string, do func([][]int) ([][]int, api.Errno)) call {
	return call{name, func(in input) answer {
		rows, err := do(in.rows)
		return answer{rows: rows, fault: code(err)}
	}}
}

func calls() []call {
	return []call{
		{"Check", func(in input) answer { return answer{fault: code(Check(in.rows))} }},
		toList("Shape", Shape), toList("Content", Content), toList("Word", Word),
		toRows("Standard", Standard), toRows("Turned", Turned),
		{"IsStandard", func(in input) answer {
			yes, err := IsStandard(in.rows)
			return answer{yes: yes, fault: code(err)}
		}},
		{"Write", func(in input) answer {
			text, err := Write(in.rows)
			return answer{text: text, fault: code(err)}
		}},
		{"Read", func(in input) answer {
			rows, fault := Read(in.text)
			return answer{rows: rows, fault: fault}
		}},
		{"All", func(in input) answer {
			tableaux, err := All(in.list)
			return answer{tableaux: tableaux, fault: code(err)}
		}},
		{"AllOf", func(in input) answer {
			tableaux, err := AllOf(in.list, in.most)
			return answer{tableaux: tableaux, fault: code(err)}
		}},
	}
}

// inputs holds tableaux, shapes and texts, and what is none of these.
func inputs() []input {
	tableaux := someTableaux()
	for n := range 5 {
		for _, p := range shapes(n, n) {
			eachFilling(p, 0, 3, func(t [][]int) { tableaux = append(tableaux, cloneRows(t)) })
		}
	}
	eachBad(func(t [][]int, _ api.Errno) {
		if len(t) < 100 {
			tableaux = append(tableaux, t)
		}
	})
	lists := append(badShapes(), nil, []int{2, 2, 1}, []int{3, 1, 1}, []int{5, 1}, []int{20, 20}, []int{22, 3})
	for n := range 5 {
		lists = append(lists, shapes(n, n)...)
	}
	texts := []string{"", "1", "1 1 2/2 3", "2/1", "1 ", "x", "1/2/3/4/5", "99 99/100", "\xff\x00"}
	var list []input
	for i, t := range tableaux {
		in := input{rows: t, list: lists[i%len(lists)], most: i%7 - 1, text: texts[i%len(texts)]}
		if s, err := Write(t); err == api.OK && i%2 == 0 {
			in.text = s
		}
		list = append(list, in)
	}
	return list
}

const spare = 77

// roomy lays a list at the front of a longer one, whose rest is spare room.
func roomy(l []int) []int {
	return append(slices.Clone(l), spare, spare, spare, spare, spare)[:len(l)]
}

// roomyRows does so with the rows, and with their list.
func roomyRows(t [][]int) [][]int {
	r := make([][]int, len(t), len(t)+3)
	for i, row := range t {
		r[i] = roomy(row)
	}
	for i := range 3 {
		r[:cap(r)][len(t)+i] = []int{spare}
	}
	return r
}

// whole shows all of the rows, spare room included.
func whole(t [][]int) [][]int {
	var all [][]int
	for _, row := range t[:cap(t)] {
		all = append(all, row[:cap(row)])
	}
	return all
}

// scribble writes over all lists of an answer, and over their spare room.
func scribble(a answer) {
	for _, l := range a.numbers() {
		l = l[:cap(l)]
		for i := range l {
			l[i] = -99
		}
	}
	for _, rows := range a.rowLists() {
		rows = rows[:cap(rows)]
		for i := range rows {
			rows[i] = []int{-98}
		}
	}
	tableaux := a.tableaux[:cap(a.tableaux)]
	for i := range tableaux {
		tableaux[i] = [][]int{{-97}}
	}
}

// TestInputsAreKeptApart: P2 of each call, and P1 in that each of them answers.
func TestInputsAreKeptApart(t *testing.T) {
	for _, c := range calls() {
		for _, in := range inputs() {
			handed := in
			handed.rows, handed.list = roomyRows(in.rows), roomy(in.list)
			rowsBefore := cloneRows(whole(handed.rows))
			listBefore := slices.Clone(handed.list[:cap(handed.list)])
			got := c.do(handed)
			want := got.clone()
			scribble(got)
			if !sameRows(whole(handed.rows), rowsBefore) || !slices.Equal(handed.list[:cap(handed.list)], listBefore) {
				t.Fatal(c.name, "changed or answered what was handed in:", in)
			}
			if again := c.do(in); !again.same(want) {
				t.Fatal(c.name, "kept something, or hung on spare room:", in, want, again)
			}
		}
	}
}

// TestRowsMayBeOneList: rows that lie in one memory are no other than rows apart.
func TestRowsMayBeOneList(t *testing.T) {
	letters := rowFrom(1, 40)
	for _, rows := range [][][]int{
		{letters[:3], letters[3:5], letters[5:6]}, {letters[:3], letters[1:3], letters[2:3]}, {letters[:2], letters[:2]}, {letters[:4], letters[:1]},
	} {
		for _, c := range calls() {
			want := c.do(input{rows: cloneRows(rows)}).clone()
			got := c.do(input{rows: rows})
			if !got.same(want) {
				t.Fatal(c.name, rows, got, want)
			}
			scribble(got)
			if !slices.Equal(letters, rowFrom(1, 40)) {
				t.Fatal(c.name, "answered what was handed in:", rows)
			}
		}
	}
}

// TestListsOfOneAnswerShareNothing: P2, the spare room included: each list is marked all over,
// and none of the marks is written over by another's.
func TestListsOfOneAnswerShareNothing(t *testing.T) {
	for _, c := range calls() {
		for _, in := range inputs() {
			got := c.do(in)
			lists, rowLists := got.numbers(), got.rowLists()
			for k, l := range lists {
				for i := range cap(l) {
					l[:cap(l)][i] = k
				}
			}
			for k, l := range lists {
				if slices.ContainsFunc(l[:cap(l)], func(n int) bool { return n != k }) {
					t.Fatal(c.name, in, "two lists share room")
				}
			}
			for k, rows := range rowLists {
				for i := range cap(rows) {
					rows[:cap(rows)][i] = []int{k}
				}
			}
			for k, rows := range rowLists {
				if slices.ContainsFunc(rows[:cap(rows)], func(row []int) bool { return row[0] != k }) {
					t.Fatal(c.name, in, "two lists of rows share room")
				}
			}
		}
	}
}

// TestErrorsComeAlone: with an error every other result is its zero value, and a fault is at 0 if there is none.
func TestErrorsComeAlone(t *testing.T) {
	seen := map[string]int{}
	for _, c := range calls() {
		for _, in := range inputs() {
			got := c.do(in)
			if got.fault.Code == api.OK {
				if got.fault.At != 0 {
					t.Fatal(c.name, in, got)
				}
				continue
			}
			seen[c.name]++
			if got.list != nil || got.rows != nil || got.tableaux != nil || got.yes || got.text != "" {
				t.Fatal(c.name, in, got)
			}
		}
		if seen[c.name] == 0 {
			t.Error(c.name, "has had no error")
		}
	}
}

// TestNoGoroutineIsLeft: P1.
func TestNoGoroutineIsLeft(t *testing.T) {
	before := runtime.NumGoroutine()
	for _, c := range calls() {
		for _, in := range inputs() {
			c.do(in)
		}
	}
	if after := runtime.NumGoroutine(); after > before {
		t.Error(before, after)
	}
}
