package heap_test

import (
	"math/big"
	"slices"
	"testing"

	"pritchel/api"
	"pritchel/heap"
)

// This file works by the definitions of the chapter, as slowly and plainly as they are written.

type yard struct {
	name  string
	n     int
	edges []api.Pair
}

func pairs(numbers ...int) []api.Pair {
	var l []api.Pair
	for i := 0; i < len(numbers); i += 2 {
		l = append(l, api.Pair{A: numbers[i], B: numbers[i+1]})
	}
	return l
}

func path(n int) []api.Pair {
	var l []api.Pair
	for v := 1; v < n; v++ {
		l = append(l, api.Pair{A: v - 1, B: v})
	}
	return l
}

func complete(n int) []api.Pair {
	var l []api.Pair
	for b := range n {
		for a := range b {
			l = append(l, api.Pair{A: a, B: b})
		}
	}
	return l
}

var triangle = pairs(0, 1, 0, 2, 1, 2)

// yards are small enough for everything in this file.
func yards() []yard {
	l := []yard{
		{"triangle", 3, triangle},
		{"edge", 2, pairs(1, 0)},
		{"three edges", 2, pairs(0, 1, 1, 0, 0, 1)},
		{"twenty edges", 2, slices.Repeat(pairs(0, 1), api.MaxEdges)},
		{"star with the river in it", 5, pairs(0, 1, 0, 2, 0, 3, 0, 4)},
		{"star with the river at its end", 5, pairs(4, 1, 4, 2, 4, 3, 4, 0)},
		{"path", 8, path(8)},
		{"ring", 8, append(path(8), api.Pair{A: 7, B: 0})},
		{"four complete", 4, complete(4)},
		{"five complete", 5, complete(5)},
		{"square with a tail", 5, pairs(0, 4, 4, 3, 3, 2, 2, 1, 1, 4)},
		{"far river", 4, pairs(0, 1, 1, 2, 1, 2, 1, 2, 2, 3, 2, 3, 2, 3, 1, 3)},
		{"two triangles", 5, pairs(0, 1, 1, 2, 2, 0, 2, 3, 3, 4, 4, 2)},
		{"doubled square", 4, slices.Repeat(pairs(0, 1, 1, 2, 2, 3, 3, 0), 2)},
		{"doubled tree", 4, slices.Repeat(pairs(0, 1, 1, 2, 1, 3), 2)},
	}
	r := sequence(1)
	for range 30 {
		n := 2 + r.below(5)
		l = append(l, r.yard(n, n-1+r.below(5)))
	}
	return l
}

// bigYards are at the limits.
func bigYards() []yard {
	l := []yard{
		{"weak river", 8, append(pairs(0, 1), slices.Repeat(path(8)[1:], 3)...)},
		{"heavy path", 8, append(slices.Repeat(path(8), 2), path(7)...)},
		{"many trees", 8, complete(8)[:api.MaxEdges]},
	}
	l[2].edges[0] = api.Pair{A: 7, B: 6}
	r := sequence(2)
	for range 12 {
		l = append(l, r.yard(8, api.MaxEdges))
	}
	return l
}

// sequence is numbers that look as if they had no order, and are always the same.
type sequenceOf struct {
	state uint64
}

func sequence(seed uint64) *sequenceOf {
	return &sequenceOf{seed}
}

func (r *sequenceOf) below(n int) int {
	r.state = r.state*6364136223846793005 + 1442695040888963407
	return int(r.state >> 33 % uint64(n))
}

func (r *sequenceOf) yard(n, edges int) yard {
	y := yard{name: "made", n: n}
	for v := 1; v < n; v++ {
		y.edges = append(y.edges, api.Pair{A: v, B: r.below(v)})
	}
	for len(y.edges) < min(edges, api.MaxEdges) {
		a, b := r.below(n), r.below(n)
		if a != b {
			y.edges = append(y.edges, api.Pair{A: a, B: b})
		}
	}
	return y
}

func (r *sequenceOf) heaps(n, least, most int) []int {
	l := make([]int, n-1)
	for i := range l {
		l[i] = least + r.below(most-least+1)
	}
	return l
}

// stable returns stable heaps.
func (r *sequenceOf) stable(y yard) []int {
	l := make([]int, y.n-1)
	for i := range l {
		l[i] = r.below(y.degree(i + 1))
	}
	return l
}

func (y yard) degree(v int) int {
	d := 0
	for _, e := range y.edges {
		if e.A == v || e.B == v {
			d++
		}
	}
	return d
}

// toppled returns heaps (also some that cannot topple) after a vertex has toppled.
func (y yard) toppled(heaps []int, v int) []int {
	l := append([]int{0}, heaps...)
	for _, e := range y.edges {
		if e.A == v || e.B == v {
			l[v]--
			l[e.A+e.B-v]++
		}
	}
	return l[1:]
}

func (y yard) isStable(heaps []int) bool {
	for i, h := range heaps {
		if h >= y.degree(i+1) {
			return false
		}
	}
	return true
}

// settled topples one vertex at a time, the first in the given order of vertices that can.
func (y yard) settled(heaps, order []int) ([]int, []int) {
	l, times := slices.Clone(heaps), make([]int, y.n-1)
	for !y.isStable(l) {
		for _, v := range order {
			if l[v-1] >= y.degree(v) {
				l = y.toppled(l, v)
				times[v-1]++
				break
			}
		}
	}
	return l, times
}

func (y yard) order() []int {
	var l []int
	for v := 1; v < y.n; v++ {
		l = append(l, v)
	}
	return l
}

func (y yard) burnt(heaps []int) []int {
	var l []int
	for {
		v := 1
		for v < y.n && (slices.Contains(l, v) || heaps[v-1] < y.unburnt(v, l)) {
			v++
		}
		if v == y.n {
			return l
		}
		l = append(l, v)
	}
}

func (y yard) unburnt(v int, burnt []int) int {
	n := 0
	for _, e := range y.edges {
		if e.A == v || e.B == v {
			if other := e.A + e.B - v; other != 0 && !slices.Contains(burnt, other) {
				n++
			}
		}
	}
	return n
}

func (y yard) isRecurrent(heaps []int) bool {
	for _, h := range heaps {
		if h < 0 {
			return false
		}
	}
	return y.isStable(heaps) && len(y.burnt(heaps)) == y.n-1
}

func (y yard) isSuperstable(heaps []int) bool {
	if !y.isStable(heaps) || slices.Min(heaps) < 0 {
		return false
	}
	for set := 1; set < 1<<(y.n-1); set++ {
		l := heaps
		for v := 1; v < y.n; v++ {
			if set>>(v-1)&1 == 1 {
				l = y.toppled(l, v)
			}
		}
		if slices.Min(l) >= 0 {
			return false
		}
	}
	return true
}

// topplings returns how often each vertex would have to topple to make one of two heaps the other one; these may be fractions.
func (y yard) topplings(a, b []int) []*big.Rat {
	k := y.n - 1
	m := make([][]*big.Rat, k)
	for i := range m {
		for j := range k {
			lost := -y.toppled(make([]int, k), j+1)[i]
			m[i] = append(m[i], big.NewRat(int64(lost), 1))
		}
		m[i] = append(m[i], big.NewRat(int64(a[i]-b[i]), 1))
	}
	for c := range k {
		p := c
		for m[p][c].Sign() == 0 {
			p++
		}
		m[p], m[c] = m[c], m[p]
		inverse := new(big.Rat).Inv(m[c][c])
		for j := range m[c] {
			m[c][j].Mul(m[c][j], inverse)
		}
		for i := range m {
			if factor := new(big.Rat).Set(m[i][c]); i != c {
				for j := range m[i] {
					m[i][j].Sub(m[i][j], new(big.Rat).Mul(factor, m[c][j]))
				}
			}
		}
	}
	var l []*big.Rat
	for i := range m {
		l = append(l, m[i][k])
	}
	return l
}

func (y yard) equivalent(a, b []int) bool {
	for _, t := range y.topplings(a, b) {
		if !t.IsInt() {
			return false
		}
	}
	return true
}

// allStable returns all stable heaps.
func (y yard) allStable() [][]int {
	l := [][]int{{}}
	for v := 1; v < y.n; v++ {
		var longer [][]int
		for _, heaps := range l {
			for h := range y.degree(v) {
				longer = append(longer, append(slices.Clone(heaps), h))
			}
		}
		l = longer
	}
	return l
}

func (y yard) allRecurrent() [][]int {
	var l [][]int
	for _, heaps := range y.allStable() {
		if y.isRecurrent(heaps) {
			l = append(l, heaps)
		}
	}
	return l
}

// trees counts the sets of n - 1 edges without a ring.
func (y yard) trees() int {
	part := make([]int, y.n)
	for v := range part {
		part[v] = v
	}
	return y.treesFrom(0, y.n-1, part)
}

func (y yard) treesFrom(edge, missing int, part []int) int {
	if missing == 0 {
		return 1
	}
	if len(y.edges)-edge < missing {
		return 0
	}
	n := y.treesFrom(edge+1, missing, part)
	a, b := part[y.edges[edge].A], part[y.edges[edge].B]
	if a == b {
		return n
	}
	joined := slices.Clone(part)
	for v := range joined {
		if joined[v] == b {
			joined[v] = a
		}
	}
	return n + y.treesFrom(edge+1, missing-1, joined)
}

// merged returns the yard in which the two ends of an edge are one vertex.
func (y yard) merged(e api.Pair) yard {
	keep, drop := min(e.A, e.B), max(e.A, e.B)
	number := func(v int) int {
		switch {
		case v == drop:
			return keep
		case v > drop:
			return v - 1
		}
		return v
	}
	m := yard{name: y.name + ", merged", n: y.n - 1}
	for _, f := range y.edges {
		if a, b := number(f.A), number(f.B); a != b {
			m.edges = append(m.edges, api.Pair{A: a, B: b})
		}
	}
	return m
}

// The following functions fail the test if an error is returned.

func (y yard) fatal(t *testing.T, what string, e api.Errno) {
	t.Helper()
	if e != api.OK {
		t.Fatalf("%s %v: %s: error %d", y.name, y.edges, what, e)
	}
}

func (y yard) settle(t *testing.T, heaps []int) ([]int, []int) {
	t.Helper()
	l, times, e := heap.Settle(y.n, y.edges, heaps)
	y.fatal(t, "Settle", e)
	return l, times
}

func (y yard) burn(t *testing.T, heaps []int) ([]int, bool) {
	t.Helper()
	l, ok, e := heap.Burn(y.n, y.edges, heaps)
	y.fatal(t, "Burn", e)
	return l, ok
}

func (y yard) sum(t *testing.T, a, b []int) []int {
	t.Helper()
	l, e := heap.Sum(y.n, y.edges, a, b)
	y.fatal(t, "Sum", e)
	return l
}

func (y yard) again(t *testing.T, heaps []int) []int {
	t.Helper()
	l, e := heap.Again(y.n, y.edges, heaps)
	y.fatal(t, "Again", e)
	return l
}

func (y yard) low(t *testing.T, heaps []int) []int {
	t.Helper()
	l, e := heap.Low(y.n, y.edges, heaps)
	y.fatal(t, "Low", e)
	return l
}

func (y yard) nothing(t *testing.T) []int {
	t.Helper()
	l, e := heap.Nothing(y.n, y.edges)
	y.fatal(t, "Nothing", e)
	return l
}

func (y yard) orderOf(t *testing.T, heaps []int) int {
	t.Helper()
	k, e := heap.Order(y.n, y.edges, heaps)
	y.fatal(t, "Order", e)
	return k
}

func (y yard) group(t *testing.T) []int {
	t.Helper()
	l, e := heap.Group(y.n, y.edges)
	y.fatal(t, "Group", e)
	return l
}

func (y yard) count(t *testing.T) int {
	t.Helper()
	n, e := heap.Count(y.n, y.edges)
	y.fatal(t, "Count", e)
	return n
}

func (y yard) levels(t *testing.T) []int {
	t.Helper()
	l, e := heap.Levels(y.n, y.edges)
	y.fatal(t, "Levels", e)
	return l
}
