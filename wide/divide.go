package wide

// divided answers the quotient and what is left over; h is not 0.
func (g groups) divided(h groups) (quotient, rest groups) {
	if g.compare(h) < 0 {
		return nil, g
	}
	// Both are made so many times as great that h's highest group is at least about half as
	// great as a group can be, since then what is told by the highest groups is nearly right.
	factor := groupsOf(groupSize / (h[len(h)-1] + 1))
	quotient, rest = longDivision(g.times(factor), h.times(factor))
	return quotient, rest.shared(factor[0])
}

// shared answers the quotient, n being one group; nothing is left over.
func (g groups) shared(n uint64) groups {
	quotient := make(groups, len(g))
	left := uint64(0)
	for i := len(g) - 1; i >= 0; i-- {
		left = left*groupSize + g[i]
		quotient[i] = left / n
		left %= n
	}
	return quotient.trimmed()
}

// longDivision answers the quotient, which it finds from its highest group on, and what is left of g.
// h has no more groups than g.
func longDivision(g, h groups) (quotient, rest groups) {
	rest = append(append(make(groups, 0, len(g)+1), g...), 0)
	quotient = make(groups, len(g)-len(h)+1)
	for shift := len(quotient) - 1; shift >= 0; shift-- {
		window := rest[shift : shift+len(h)+1]
		for n := window.atLeast(h); n > 0; n = window.atLeast(h) {
			window.lower(h, n)
			quotient[shift] += n
		}
	}
	return quotient.trimmed(), rest.trimmed()
}

// atLeast answers a number of times that h is in g, which has one group more, noughts or not;
// 0 only if it is not in it at all.
func (g groups) atLeast(h groups) uint64 {
	last := len(h) - 1
	n := (g[last+1]*groupSize + g[last]) / (h[last] + 1)
	if n == 0 && g.trimmed().compare(h) >= 0 {
		return 1
	}
	return n
}
