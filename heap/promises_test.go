package heap_test

import (
	"slices"
	"testing"

	"pritchel/api"
	"pritchel/heap"
)

// G1, and P4: what topples first does not matter.
func TestAnyOrder(t *testing.T) {
	r := sequence(6)
	for _, y := range append(yards(), bigYards()...) {
		for range 5 {
			heaps := r.heaps(y.n, 0, 60)
			l, times := y.settle(t, heaps)
			for v := 1; v < y.n; v++ {
				if heaps[v-1] < y.degree(v) {
					continue
				}
				m, fewer := y.settle(t, y.toppled(heaps, v))
				fewer[v-1]++
				if !slices.Equal(l, m) || !slices.Equal(times, fewer) {
					t.Fatalf("%s %v: Settle(%v) = %v, %v, but %v, %v if vertex %d topples first", y.name, y.edges, heaps, l, times, m, fewer, v)
				}
			}
		}
	}
}

// G2
func TestTrees(t *testing.T) {
	for _, y := range append(yards(), bigYards()...) {
		n := y.count(t)
		if n != y.trees() {
			t.Errorf("%s %v: Count = %d, trees %d", y.name, y.edges, n, y.trees())
		}
		product := 1
		for _, f := range y.group(t) {
			product *= f
		}
		if product != n {
			t.Errorf("%s %v: Group = %v, Count %d", y.name, y.edges, y.group(t), n)
		}
		if l, e := heap.Levels(y.n, y.edges); e == api.OK && total(l) != n {
			t.Errorf("%s %v: Levels = %v, Count %d", y.name, y.edges, l, n)
		}
	}
}

// G3
func TestGroupOfHeaps(t *testing.T) {
	for _, y := range yards() {
		nothing, recurrent := y.nothing(t), y.allRecurrent()
		for _, a := range some(recurrent, 12) {
			for _, b := range some(recurrent, 12) {
				if l := y.sum(t, a, b); !y.isRecurrent(l) {
					t.Errorf("%s %v: Sum(%v, %v) = %v", y.name, y.edges, a, b, l)
				}
			}
			if l := y.sum(t, a, nothing); !slices.Equal(l, a) {
				t.Errorf("%s %v: with Nothing, %v are %v", y.name, y.edges, a, l)
			}
		}
	}
}

// G3
func TestOrderAddedUp(t *testing.T) {
	for _, y := range yards() {
		nothing := y.nothing(t)
		greatest, last := 1, 1
		if group := y.group(t); len(group) > 0 {
			last = group[len(group)-1]
		}
		for _, heaps := range y.allRecurrent() {
			k := 1
			for l := heaps; !slices.Equal(l, nothing); l = y.sum(t, l, heaps) {
				k++
			}
			if n := y.orderOf(t, heaps); n != k || last%n != 0 {
				t.Fatalf("%s %v: Order(%v) = %d, not %d; Group %v", y.name, y.edges, heaps, n, k, y.group(t))
			}
			greatest = max(greatest, k)
		}
		if greatest != last {
			t.Errorf("%s %v: Group = %v, the greatest Order %d", y.name, y.edges, y.group(t), greatest)
		}
	}
}

// G4
func TestDhar(t *testing.T) {
	r := sequence(7)
	for _, y := range append(yards(), bigYards()...) {
		if _, ok := y.burn(t, y.greatest()); !ok {
			t.Errorf("%s %v: the greatest stable heaps are not recurrent", y.name, y.edges)
		}
		for range 6 {
			heaps := y.again(t, r.heaps(y.n, -50, 50))
			added := plus(heaps, r.heaps(y.n, 0, 9))
			l, _ := y.settle(t, added)
			if _, ok := y.burn(t, l); !ok {
				t.Errorf("%s %v: %v settle as %v, which are not recurrent", y.name, y.edges, added, l)
			}
		}
	}
}

// G5
func TestDuality(t *testing.T) {
	r := sequence(8)
	for _, y := range append(yards(), bigYards()...) {
		for range 6 {
			low := y.low(t, r.heaps(y.n, -50, 50))
			rest := y.greatest()
			for i := range rest {
				rest[i] -= low[i]
			}
			if _, ok := y.burn(t, rest); !ok {
				t.Errorf("%s %v: what %v lack is %v", y.name, y.edges, low, rest)
			}
			if level := y.degree(0) - len(y.edges) + total(rest); level < 0 {
				t.Errorf("%s %v: level %d of %v", y.name, y.edges, level, rest)
			}
		}
	}
}

// G6
func TestEquivalence(t *testing.T) {
	r := sequence(9)
	for _, y := range append(yards(), bigYards()...) {
		for range 5 {
			heaps := r.heaps(y.n, 0, 80)
			l, _ := y.settle(t, heaps)
			if !y.equivalent(heaps, l) {
				t.Errorf("%s %v: Settle(%v) = %v", y.name, y.edges, heaps, l)
			}
			again, low := y.again(t, heaps), y.low(t, heaps)
			moved := y.toppled(heaps, 1+r.below(y.n-1)) // may be below 0
			for _, other := range [][]int{l, low, again, moved} {
				if m := y.again(t, other); !slices.Equal(m, again) {
					t.Errorf("%s %v: Again(%v) = %v, but Again(%v) = %v", y.name, y.edges, other, m, heaps, again)
				}
				if m := y.low(t, other); !slices.Equal(m, low) {
					t.Errorf("%s %v: Low(%v) = %v, but Low(%v) = %v", y.name, y.edges, other, m, heaps, low)
				}
			}
		}
	}
}

// Each class has exactly one recurrent and one superstable element.
func TestClasses(t *testing.T) {
	for _, y := range yards() {
		all := y.allStable()
		if len(all) > 300 {
			continue
		}
		for _, heaps := range all {
			if y.isRecurrent(heaps) != slices.Equal(y.again(t, heaps), heaps) {
				t.Errorf("%s %v: Again(%v) = %v", y.name, y.edges, heaps, y.again(t, heaps))
			}
			if y.isSuperstable(heaps) != slices.Equal(y.low(t, heaps), heaps) {
				t.Errorf("%s %v: Low(%v) = %v", y.name, y.edges, heaps, y.low(t, heaps))
			}
		}
	}
}

// G7
func TestDeletionAndContraction(t *testing.T) {
	for _, y := range append(yards(), bigYards()...) {
		if y.n < 3 {
			continue
		}
		if len(y.edges) == api.MaxEdges {
			y.edges = y.edges[:api.MaxEdges-1]
		}
		if _, e := heap.Count(y.n, y.edges); e != api.OK { // the last edge was the only one to some vertex
			continue
		}
		for b := range y.n {
			for a := range b {
				e := api.Pair{A: a, B: b}
				more := yard{y.name, y.n, append(slices.Clone(y.edges), e)}
				if n, m, k := y.count(t), more.count(t), y.merged(e).count(t); m != n+k {
					t.Errorf("%s %v: Count %d, with %v %d, merged %d", y.name, y.edges, n, e, m, k)
				}
			}
		}
	}
}

// results returns all results of all functions; the slices of a call are apart.
func results(t *testing.T, y yard, heaps, stable []int) [][]int {
	t.Helper()
	l, times := y.settle(t, heaps)
	burnt, _ := y.burn(t, stable)
	return [][]int{l, times, burnt, y.sum(t, heaps, stable), y.again(t, heaps), y.low(t, heaps), y.nothing(t), {y.orderOf(t, heaps)}, y.group(t), {y.count(t)}, y.levels(t)}
}

func clones(l [][]int) [][]int {
	var c [][]int
	for _, x := range l {
		c = append(c, slices.Clone(x))
	}
	return c
}

// R5 and R6: arguments stay as they are, also behind their ends, and results depend on them alone and share no memory.
func TestArguments(t *testing.T) {
	r := sequence(10)
	for _, y := range yards() {
		for _, heaps := range [][]int{r.heaps(y.n, 0, 30), r.stable(y)} {
			stable := r.stable(y)
			behind := append(slices.Clone(heaps), 77, 88)
			edges := append(slices.Clone(y.edges), api.Pair{A: 5, B: 5})
			y.edges = edges[:len(edges)-1]
			before, given, laid := slices.Clone(behind), slices.Clone(stable), slices.Clone(edges)
			first := results(t, y, behind[:y.n-1], stable)
			kept := clones(first)
			for i := range first {
				for j := range first[i] {
					first[i][j] = -5
				}
				first[i] = append(first[i], -6)
			}
			if !slices.Equal(behind, before) || !slices.Equal(stable, given) || !slices.Equal(edges, laid) {
				t.Fatalf("%s: arguments were changed", y.name)
			}
			for i, l := range results(t, y, heaps, stable) {
				if !slices.Equal(l, kept[i]) {
					t.Errorf("%s: result %d was %v, and is %v", y.name, i, kept[i], l)
				}
			}
		}
	}
}

// Results of one call share no memory with one another.
func TestResultsApart(t *testing.T) {
	l, times := yard{"triangle", 3, triangle}.settle(t, []int{2, 0})
	l = append(l[:1], 9)
	times = append(times[:1], 8)
	if !slices.Equal(l, []int{0, 9}) || !slices.Equal(times, []int{1, 8}) {
		t.Errorf("%v, %v", l, times)
	}
}

// R4
func TestNilAndEmpty(t *testing.T) {
	for _, f := range functions() {
		for _, n := range []int{1, 2, 3} {
			_, a := f.call(n, nil, nil)
			_, b := f.call(n, []api.Pair{}, []int{})
			_, c := f.call(n, triangle[:n], nil)
			_, d := f.call(n, triangle[:n], []int{})
			if a != b || c != d {
				t.Errorf("%s: %d, %d, %d, %d", f.name, a, b, c, d)
			}
		}
	}
}

// An edge has no direction, and edges no order.
func TestEdgesTurned(t *testing.T) {
	r := sequence(11)
	for _, y := range yards() {
		heaps, stable := r.heaps(y.n, 0, 30), r.stable(y)
		turned := yard{y.name, y.n, nil}
		for _, e := range y.edges {
			turned.edges = append(turned.edges, api.Pair{A: e.B, B: e.A})
		}
		slices.Reverse(turned.edges)
		other := results(t, turned, heaps, stable)
		for i, l := range results(t, y, heaps, stable) {
			if !slices.Equal(l, other[i]) {
				t.Errorf("%s: result %d is %v, and %v turned", y.name, i, l, other[i])
			}
		}
	}
}
