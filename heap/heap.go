// Package heap is layer 1, heaps of iron bars: see shared/doc/01-heap.md.
package heap

import "pritchel/api"

// Settle returns the stabilization of heaps, and how often each vertex topples.
func Settle(n int, edges []api.Pair, heaps []int) ([]int, []int, api.Errno) {
	y, e := yardOf(n, edges, 0, heaps)
	if e != api.OK {
		return nil, nil, e
	}
	stable, times := y.settle(heaps)
	return stable, times, api.OK
}

// Burn returns the vertices that burn, and whether the heaps are recurrent.
func Burn(n int, edges []api.Pair, heaps []int) ([]int, bool, api.Errno) {
	y, e := yardOf(n, edges, 0, heaps)
	if e != api.OK {
		return nil, false, e
	}
	if !y.stable(heaps) {
		return nil, false, api.ErrState
	}
	burnt := y.burn(heaps)
	return burnt, y.all(burnt), api.OK
}

// Sum returns the sum of two heaps.
func Sum(n int, edges []api.Pair, a, b []int) ([]int, api.Errno) {
	y, e := yardOf(n, edges, 0, a, b)
	if e != api.OK {
		return nil, e
	}
	sum := make([]int, len(a))
	for i := range sum {
		sum[i] = a[i] + b[i]
	}
	stable, _ := y.settle(sum)
	return stable, api.OK
}

// Again returns the equivalent recurrent heaps.
func Again(n int, edges []api.Pair, heaps []int) ([]int, api.Errno) {
	y, e := yardOf(n, edges, -api.MaxBars, heaps)
	if e != api.OK {
		return nil, e
	}
	return y.recurrent(heaps), api.OK
}

// Low returns the equivalent superstable heaps.
func Low(n int, edges []api.Pair, heaps []int) ([]int, api.Errno) {
	y, e := yardOf(n, edges, -api.MaxBars, heaps)
	if e != api.OK {
		return nil, e
	}
	return y.superstable(heaps), api.OK
}

// Nothing returns the identity of the group.
func Nothing(n int, edges []api.Pair) ([]int, api.Errno) {
	y, e := yardOf(n, edges, 0)
	if e != api.OK {
		return nil, e
	}
	return y.recurrent(make([]int, n-1)), api.OK
}

// Order returns the order of heaps in the group.
func Order(n int, edges []api.Pair, heaps []int) (int, api.Errno) {
	y, e := yardOf(n, edges, -api.MaxBars, heaps)
	if e != api.OK {
		return 0, e
	}
	// By Cramer's rule, the heaps are gone when each vertex has toppled so often: the determinant with the heaps as the vertex's column, divided by count. The order is the least common denominator of these fractions.
	m := y.laplacian()
	count := m.determinant()
	common := count
	for i := range m {
		common = gcd(common, m.replaced(i, heaps).determinant())
	}
	return int(count / common), api.OK
}

// Group returns the invariant factors of the group.
func Group(n int, edges []api.Pair) ([]int, api.Errno) {
	y, e := yardOf(n, edges, 0)
	if e != api.OK {
		return nil, e
	}
	divisors := y.laplacian().divisors()
	var factors []int
	for i := range n - 1 {
		if f := divisors[i+1] / divisors[i]; f > 1 {
			factors = append(factors, int(f))
		}
	}
	return factors, api.OK
}

// Count returns the number of recurrent heaps.
func Count(n int, edges []api.Pair) (int, api.Errno) {
	y, e := yardOf(n, edges, 0)
	if e != api.OK {
		return 0, e
	}
	return y.count(), api.OK
}

// Levels returns the number of recurrent heaps of each level.
func Levels(n int, edges []api.Pair) ([]int, api.Errno) {
	y, e := yardOf(n, edges, 0)
	if e != api.OK {
		return nil, e
	}
	if y.stableHeaps() > api.MaxStable {
		return nil, api.ErrFull
	}
	// The greatest stable heaps are recurrent, so that theirs is the greatest level.
	levels := make([]int, y.level(y.greatest())+1)
	heaps := make([]int, n-1)
	for more := true; more; more = y.next(heaps) {
		if y.all(y.burn(heaps)) {
			levels[y.level(heaps)]++
		}
	}
	return levels, api.OK
}
