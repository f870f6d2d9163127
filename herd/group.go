package herd

import (
	"iter"
	"math/bits"

	"pritchel/api"
)

// maxPairs is how many pairs a herd may be given by.
const maxPairs = 100

// set is a set of horses.
type set uint16

func (s set) has(horse int) bool {
	return s>>horse&1 == 1
}

func (s set) size() int {
	return bits.OnesCount16(uint16(s))
}

// after returns the horses of the set with greater numbers.
func (s set) after(horse int) set {
	return s &^ (2<<horse - 1)
}

func (s set) horses() []int {
	var list []int
	for i := range api.MaxHerd {
		if s.has(i) {
			list = append(list, i)
		}
	}
	return list
}

// herd is with which others each horse gets along.
type herd []set

func herdOf(n int, pairs []api.Pair) (herd, api.Errno) {
	if !isWithin(n, api.MaxHerd) || len(pairs) > maxPairs {
		return nil, api.ErrArg
	}
	h := make(herd, n)
	for _, p := range pairs {
		if min(p.A, p.B) < 0 || max(p.A, p.B) >= n || p.A == p.B {
			return nil, api.ErrArg
		}
		h.join(p)
	}
	return h, api.OK
}

func (h herd) join(p api.Pair) {
	h[p.A] |= 1 << p.B
	h[p.B] |= 1 << p.A
}

func (h herd) part(p api.Pair) {
	h[p.A] &^= 1 << p.B
	h[p.B] &^= 1 << p.A
}

func (h herd) all() set {
	return 1<<len(h) - 1
}

// pairs returns the pairs in lexicographic order.
func (h herd) pairs() []api.Pair {
	var list []api.Pair
	for i, along := range h {
		for _, j := range along.after(i).horses() {
			list = append(list, api.Pair{A: i, B: j})
		}
	}
	return list
}

// opposite returns the herd in which exactly those get along that do not in h.
func (h herd) opposite() herd {
	other := make(herd, len(h))
	for i, along := range h {
		other[i] = h.all() &^ along &^ (1 << i)
	}
	return other
}

// groups yields all groups in lexicographic order, that of no horse first.
func (h herd) groups() iter.Seq[set] {
	return func(yield func(set) bool) {
		h.grow(0, h.all(), yield)
	}
}

// grow yields a group, and what it becomes with some of the horses that may still join it, and reports whether more is wanted.
func (h herd) grow(group, next set, yield func(set) bool) bool {
	if !yield(group) {
		return false
	}
	for i, along := range h {
		if next.has(i) && !h.grow(group|1<<i, next.after(i)&along, yield) {
			return false
		}
	}
	return true
}

// greatest returns the first one of the greatest groups.
func (h herd) greatest() set {
	most := set(0)
	for g := range h.groups() {
		if g.size() > most.size() {
			most = g
		}
	}
	return most
}

func (h herd) triples() int {
	count := 0
	for g := range h.groups() {
		if g.size() == 3 {
			count++
		}
	}
	return count
}

// exceeds reports whether some group has more horses than that.
func (h herd) exceeds(size int) bool {
	for g := range h.groups() {
		if g.size() > size {
			return true
		}
	}
	return false
}

// free returns the herd of the pairs that are kept as long as no group has more than r horses.
func (h herd) free(r int) herd {
	kept := make(herd, len(h))
	for _, p := range h.pairs() {
		kept.join(p)
		if kept.exceeds(r) {
			kept.part(p)
		}
	}
	return kept
}

// colors returns the first list of the fewest different numbers.
func (h herd) colors() []int {
	colors := make([]int, len(h))
	few := 1
	for !h.paint(colors, 0, few) {
		few++
	}
	return colors
}

// paint looks for the first numbers below few that the horses from one on may have, and reports whether there are any.
func (h herd) paint(colors []int, horse, few int) bool {
	if horse == len(h) {
		return true
	}
	for c := range few {
		colors[horse] = c
		if h.differs(colors, horse) && h.paint(colors, horse+1, few) {
			return true
		}
	}
	return false
}

// differs reports whether a horse has another number than those before it with which it gets along.
func (h herd) differs(colors []int, horse int) bool {
	for i := range horse {
		if h[horse].has(i) && colors[i] == colors[horse] {
			return false
		}
	}
	return true
}
