package desk

import (
	"math/rand"
	"runtime"
	"strings"
	"testing"
	"unsafe"

	"ferrers/api"
)

// oddLines are texts of all kinds, few of which are lines.
func oddLines() []string {
	lines := []string{
		"", " ", "=", " = ", "\x00", "\xff\xfe", "a = \xff", "é = 1", "names\x00", strings.Repeat(" ", 400), strings.Repeat("=", 400), strings.Repeat("/", 400), "a = " + strings.Repeat("/", 396),
		"a = " + strings.Repeat(" ", 396), "a = " + strings.Repeat("-", 396), "a = " + strings.Repeat("9", 396), strings.Repeat("a", 400), strings.Repeat("a = ", 100), strings.Repeat("a = 1\n", 60),
		"show " + strings.Repeat("a", 395), "a = conj " + strings.Repeat("a", 391), "a = conj" + strings.Repeat(" a", 196), strings.Repeat("x", 1<<22),
	}
	for _, call := range strings.Split(oneCalls+"|"+twoCalls, "|") {
		lines = append(lines, call, "a = "+call, "a = "+call+" ", "a = "+call+" a", "a = "+call+" b b", "a = "+call+" a b c", call+" = "+call+" "+call)
	}
	for _, thing := range someThings {
		lines = append(lines, "a = "+thing, "b = "+thing, "a = "+thing+" ", thing)
	}
	r := rand.New(rand.NewSource(2))
	for range 2000 {
		line := make([]byte, r.Intn(30))
		for k := range line {
			line[k] = byte(r.Intn(256))
		}
		lines = append(lines, string(line), randomLine(r))
	}
	return lines
}

// TestErrorsComeAlone: P1, in that each line is answered; with an error nothing is told, and nothing changes.
func TestErrorsComeAlone(t *testing.T) {
	d := New()
	fine, wrong := 0, 0
	for _, line := range oddLines() {
		kept, things := d.Save(), state(d)
		text, err := d.Do(line)
		if err == api.OK {
			fine++
			continue
		}
		wrong++
		if text != "" || d.Save() != kept || state(d) != things {
			t.Fatalf("%q: %q %d", line, text, err)
		}
		if err == api.ErrLarge && len(line) <= 400 {
			d = New()
		}
	}
	if fine < 500 || wrong < 500 {
		t.Error("few errors, or little else:", wrong, fine)
	}
}

// TestLoadsOfAllKinds: P1 of Load; a desk comes just if there is no fault.
func TestLoadsOfAllKinds(t *testing.T) {
	lines := oddLines()
	for k, line := range lines {
		for _, s := range []string{line, line + "\n", "a = 2 1\nb = 1\n" + line + "\n" + lines[(k+7)%len(lines)] + "\n"} {
			if d, fault := Load(s); (d == nil) != (fault != api.Fault{}) || fault.Code == api.OK && fault.At != 0 || d != nil && d.Save() != s {
				t.Fatalf("%q: %v", s, fault)
			}
		}
	}
}

// overwritten hands a text in whose memory is written over behind the call.
func overwritten(s string, do func(s string)) {
	bytes := []byte(s + "!")
	do(unsafe.String(&bytes[0], len(s)))
	for k := range bytes {
		bytes[k] = '?'
	}
}

// TestLinesAreNotKept: P2: what a desk keeps is its own memory.
func TestLinesAreNotKept(t *testing.T) {
	d := New()
	for _, line := range []string{"a = 3 1 2", "bcd = pee a", "names", "a = fold a", "show bcd", "drop bcd", "undo", "nonsense", "bcd = 5"} {
		overwritten(line, func(s string) { d.Do(s) })
	}
	follow(t, d, said{"names", "a bcd", api.OK}, said{"show a", "1 3 2", api.OK}, said{"undo", "", api.OK}, said{"show bcd", "1 2/3", api.OK})
	want := "a = 3 1 2\nbcd = pee a\na = fold a\n"
	if d.Save() != want {
		t.Error(d.Save())
	}
	overwritten(want, func(s string) { d, _ = Load(s) })
	if d.Save() != want {
		t.Error(d.Save())
	}
	follow(t, d, said{"names", "a bcd", api.OK}, said{"undo", "", api.OK}, said{"show a", "3 1 2", api.OK}, said{"undo", "", api.OK}, said{"names", "a", api.OK})
}

// TestDesksAreApart: P2: one desk knows nothing of another one.
func TestDesksAreApart(t *testing.T) {
	one, other := New(), New()
	follow(t, one, said{"a = 1", "1", api.OK}, said{"b = 2", "2", api.OK})
	follow(t, other, said{"names", "", api.OK}, said{"undo", "", api.ErrNone}, said{"show a", "", api.ErrName}, said{"a = 3", "3", api.OK})
	third, _ := Load(one.Save())
	follow(t, third, said{"a = 4", "4", api.OK}, said{"drop b", "", api.OK})
	follow(t, one, said{"names", "a b", api.OK}, said{"show a", "1", api.OK}, said{"undo", "", api.OK}, said{"undo", "", api.OK}, said{"undo", "", api.ErrNone})
	follow(t, third, said{"names", "a", api.OK}, said{"undo", "", api.OK}, said{"show b", "2", api.OK})
	follow(t, other, said{"show a", "3", api.OK})
}

// TestDeskThatWasNotMade: P1, though New and Load alone make desks.
func TestDeskThatWasNotMade(t *testing.T) {
	d := &Desk{}
	if d.Save() != "" {
		t.Error(d.Save())
	}
	follow(t, d, said{"names", "", api.OK}, said{"undo", "", api.ErrNone}, said{"show a", "", api.ErrName}, said{"drop a", "", api.ErrName}, said{"b = conj a", "", api.ErrName},
		said{"a = 1", "1", api.OK}, said{"names", "a", api.OK})
}

// TestThingsAreNotChanged: what a call makes of a thing leaves the thing, and those it was made of.
func TestThingsAreNotChanged(t *testing.T) {
	for _, a := range someThings {
		d := deskOf(t, "a = "+a, "b = "+a)
		for _, call := range strings.Split(oneCalls, "|") {
			d.Do("x = " + call + " a")
			d.Do("y = " + call + " x")
		}
		for _, call := range strings.Split(twoCalls, "|") {
			d.Do("x = " + call + " a b")
			d.Do("y = " + call + " x a")
		}
		follow(t, d, said{"show a", a, api.OK}, said{"show b", a, api.OK})
		if loaded, fault := Load(d.Save()); fault != (api.Fault{}) || state(loaded) != state(d) {
			t.Error(a, fault)
		}
	}
}

// TestNoGoroutineIsLeft: P1.
func TestNoGoroutineIsLeft(t *testing.T) {
	before := runtime.NumGoroutine()
	d := New()
	for _, line := range oddLines() {
		d.Do(line)
	}
	Load(d.Save())
	if after := runtime.NumGoroutine(); after > before {
		t.Error(before, after)
	}
}
