package paths

import "ferrers/api"

const maxSteps = 1000000

// look goes through families of paths, in the order in which they come.
type look struct {
	starts, ends []api.Point
	// closed marks the points that are barred, and those of the paths so far.
	closed marks
	// texts are the paths so far.
	texts [][]byte
	steps int
	// found is called with each family, whose texts are written over behind it, and tells whether to look on.
	found func(texts [][]byte) bool
}

// families looks for families until found has had enough, or there is none left;
// ErrLarge, if that would take too many steps.
func families(closed marks, starts, ends []api.Point, found func(texts [][]byte) bool) api.Errno {
	l := look{starts: starts, ends: ends, closed: closed, texts: make([][]byte, len(starts)), found: found}
	l.begin(0)
	if l.steps > maxSteps {
		return api.ErrLarge
	}
	return api.OK
}

// begin looks for path number i and those behind it. Like all that follow it, it tells whether to look on.
func (l *look) begin(i int) bool {
	if i == len(l.starts) {
		return l.found(l.texts)
	}
	return l.enter(i, l.starts[i])
}

// enter lets path number i come to that point, if it is not closed.
func (l *look) enter(i int, at api.Point) bool {
	if l.closed[at.X][at.Y] {
		return true
	}
	l.steps++
	if l.steps > maxSteps {
		return false
	}
	l.closed[at.X][at.Y] = true
	on := l.leave(i, at)
	l.closed[at.X][at.Y] = false
	return on
}

// leave lets path number i go on from that point, or lets the next one begin, if it is the end.
func (l *look) leave(i int, at api.Point) bool {
	end := l.ends[i]
	if at == end {
		return l.begin(i + 1)
	}
	if end.X > at.X && !l.step(i, 'R', api.Point{X: at.X + 1, Y: at.Y}) {
		return false
	}
	return end.Y <= at.Y || l.step(i, 'U', api.Point{X: at.X, Y: at.Y + 1})
}

// step lets path number i make a step to that point.
func (l *look) step(i int, name byte, to api.Point) bool {
	before := len(l.texts[i])
	l.texts[i] = append(l.texts[i], name)
	on := l.enter(i, to)
	l.texts[i] = l.texts[i][:before]
	return on
}
