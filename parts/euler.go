package parts

import "ferrers/api"

// tally says of each part how often it is there.
type tally [api.MaxBoxes + 1]int

// Merge joins parts that are the same until no two are (P4).
func Merge(p []int) ([]int, api.Errno) {
	if err := Check(p); err != api.OK {
		return nil, err
	}
	for _, part := range p {
		if part%2 == 0 {
			return nil, api.ErrShape
		}
	}
	t := tallied(p)
	// A sum is above its halves: going upward each part is met behind all that become it.
	for part := 1; part <= api.MaxBoxes; part++ {
		if t[part] > 1 {
			t[2*part] += t[part] / 2
			t[part] %= 2
		}
	}
	return t.partition(), api.OK
}

// Split halves even parts until there are none (P4).
func Split(p []int) ([]int, api.Errno) {
	if err := checkDistinct(p); err != api.OK {
		return nil, err
	}
	t := tallied(p)
	// Halves are below their sum: going downward each part is met behind all that become it.
	for part := api.MaxBoxes; part > 0; part-- {
		if part%2 == 0 {
			t[part/2] += 2 * t[part]
			t[part] = 0
		}
	}
	return t.partition(), api.OK
}

// Franklin moves the last part onto the first ones, or takes it off them (P4).
func Franklin(p []int) ([]int, bool, api.Errno) {
	if err := checkDistinct(p); err != api.OK {
		return nil, false, err
	}
	n := len(p)
	if n == 0 {
		return nil, false, api.OK
	}
	last, run := p[n-1], firstRun(p)
	switch {
	case last <= run && !(run == n && last == n):
		q := copied(p[:n-1])
		for i := range last {
			q[i]++
		}
		return q, true, api.OK
	case last > run && !(run == n && last == n+1):
		q := copied(p)
		for i := range run {
			q[i]--
		}
		return append(q, run), true, api.OK
	}
	return copied(p), false, api.OK
}

// checkDistinct is Check, and ErrShape if two parts are the same.
func checkDistinct(p []int) api.Errno {
	if err := Check(p); err != api.OK {
		return err
	}
	if !falls(p) {
		return api.ErrShape
	}
	return api.OK
}

// firstRun tells how many of the first parts go down by one each.
func firstRun(p []int) int {
	run := 0
	for run < len(p) && p[run] == p[0]-run {
		run++
	}
	return run
}

// tallied counts the parts of the partition p.
func tallied(p []int) tally {
	var t tally
	for _, part := range p {
		t[part]++
	}
	return t
}

// partition lists the parts, the greatest first.
func (t tally) partition() []int {
	var p []int
	for part := api.MaxBoxes; part > 0; part-- {
		for range t[part] {
			p = append(p, part)
		}
	}
	return p
}
