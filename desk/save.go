package desk

import (
	"strings"

	"ferrers/api"
)

const lineEnd = "\n"

// Save tells the lines that have changed something (P48).
func (d *Desk) Save() string {
	var b strings.Builder
	for _, c := range d.done {
		b.WriteString(c.line)
		b.WriteString(lineEnd)
	}
	return b.String()
}

// Load makes the desk behind the lines that Save tells (P48).
func Load(s string) (*Desk, api.Fault) {
	d := New()
	for at := 0; s != ""; at++ {
		line, rest, ended := strings.Cut(s, lineEnd)
		if !ended || isNeverSaved(line) {
			return nil, api.Fault{Code: api.ErrSyntax, At: at}
		}
		if _, err := d.Do(line); err != api.OK {
			return nil, api.Fault{Code: err, At: at}
		}
		s = rest
	}
	return d, api.Fault{}
}
