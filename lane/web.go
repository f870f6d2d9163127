package lane

import (
	"math/bits"
	"slices"
)

// set is a set of ends, by their indices.
type set uint8

func (s set) isOne() bool {
	return s&(s-1) == 0
}

func (s set) first() int {
	return bits.TrailingZeros8(uint8(s))
}

// before returns the part of the set that is the next smaller number than another one, down to that of no end.
func (s set) before(part set) set {
	return (part - 1) & s
}

// web is the table of Dreyfus and Wagner: for each set of ends, but the empty one, and each place the least length of a net that joins them.
type web struct {
	country
	ends  []int
	least [][]int
}

func (c country) web(ends []int) web {
	w := web{country: c, ends: ends, least: make([][]int, 1<<len(ends))}
	for s := set(1); s <= w.all(); s++ {
		w.least[s] = w.lengths(s)
	}
	return w
}

func (w web) all() set {
	return 1<<len(w.ends) - 1
}

// lengths returns the row of a set, given those of its parts.
func (w web) lengths(s set) []int {
	if s.isOne() {
		return w.far[w.ends[s.first()]]
	}
	row := slices.Repeat([]int{beyond}, len(w.far))
	for fork, far := range w.far {
		length := w.forked(s, fork)
		for place := range row {
			row[place] = min(row[place], far[place]+length)
		}
	}
	return row
}

// forked returns the least length of two nets that meet at a place, each with a part of the ends.
func (w web) forked(s set, place int) int {
	length := beyond
	for part := s.before(s); part > 0; part = s.before(part) {
		length = min(length, w.least[part][place]+w.least[s&^part][place])
	}
	return length
}

func (w web) length() int {
	return w.least[w.all()][w.ends[0]]
}

// branch is a part of a net that is still looked for: it joins some ends and a place.
type branch struct {
	ends  set
	place int
}

// net returns a shortest net. No lane is in it twice: with that lane once it would be shorter.
func (w web) net() []int {
	var net []int
	branches := []branch{{w.all(), w.ends[0]}}
search:
	for len(branches) > 0 {
		b := branches[len(branches)-1]
		branches = branches[:len(branches)-1]
		if b.ends.isOne() {
			net = append(net, w.way(b.place, w.ends[b.ends.first()])...)
			continue
		}
		for fork, far := range w.far[b.place] {
			for part := b.ends.before(b.ends); part > 0; part = b.ends.before(part) {
				rest := b.ends &^ part
				if far+w.least[part][fork]+w.least[rest][fork] == w.least[b.ends][b.place] {
					net = append(net, w.way(b.place, fork)...)
					branches = append(branches, branch{part, fork}, branch{rest, fork})
					continue search
				}
			}
		}
	}
	slices.Sort(net)
	return net
}
