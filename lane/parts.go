package lane

import "slices"

// parts tells of each of some things the least one of the part that it is in.
type parts []int

// partsOf returns things each of which is a part of its own.
func partsOf(n int) parts {
	p := make(parts, n)
	for i := range p {
		p[i] = i
	}
	return p
}

// join makes the parts of two things one, and reports whether they were not.
func (p parts) join(a, b int) bool {
	least, other := min(p[a], p[b]), max(p[a], p[b])
	for i := range p {
		if p[i] == other {
			p[i] = least
		}
	}
	return least != other
}

// hold reports whether all these things are in one part.
func (p parts) hold(things []int) bool {
	for _, i := range things {
		if p[i] != p[things[0]] {
			return false
		}
	}
	return true
}

// reaches reports whether one of these things is in a part.
func (p parts) reaches(part int, things []int) bool {
	return slices.ContainsFunc(things, func(i int) bool { return p[i] == part })
}

// of returns the things of a part, rising.
func (p parts) of(part int) []int {
	var things []int
	for i := range p {
		if p[i] == part {
			things = append(things, i)
		}
	}
	return things
}
