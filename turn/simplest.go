package turn

// simplest returns the simplest number between values of bushes.
func simplest(l, r int64) int64 {
	switch {
	case r <= 0:
		return -simplest(-r, -l)
	case l < 0:
		return 0
	}
	part := int64(whole)
	for next(l, part) >= r {
		part /= 2
	}
	return next(l, part)
}

// next returns the first multiple of a part above l.
func next(l, part int64) int64 {
	return (l/part + 1) * part
}

// between returns the simplest number between fractions, the one less than the other. These may be any rational numbers, too long for the integers of simplest.
func between(l, r fraction) fraction {
	zero := dyadic(0, 1)
	switch {
	case !zero.less(r):
		return between(r.opposite(), l.opposite()).opposite()
	case l.less(zero):
		return zero
	}
	// m is the first multiple of a part above l, and rest what the part before it leaves of l, as the binary digits of l go on.
	integer, rest := l.top.over(l.bottom)
	m := fraction{top: integer.plus(natural{1}), bottom: natural{1}}
	for !m.less(r) {
		m.top = m.top.plus(m.top).minus(natural{1})
		m.bottom = m.bottom.plus(m.bottom)
		rest = rest.plus(rest)
		if rest.compare(l.bottom) >= 0 {
			rest = rest.minus(l.bottom)
			m.top = m.top.plus(natural{1})
		}
	}
	return m
}
