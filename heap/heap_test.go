package heap_test

import (
	"math"
	"math/big"
	"slices"
	"testing"

	"pritchel/api"
	"pritchel/heap"
)

func TestExamples(t *testing.T) {
	y := yard{"triangle", 3, triangle}
	if l, times := y.settle(t, []int{2, 0}); !slices.Equal(l, []int{0, 1}) || !slices.Equal(times, []int{1, 0}) {
		t.Errorf("Settle = %v, %v", l, times)
	}
	if n := y.count(t); n != 3 {
		t.Errorf("Count = %d", n)
	}
	if l := y.group(t); !slices.Equal(l, []int{3}) {
		t.Errorf("Group = %v", l)
	}
	if l := y.nothing(t); !slices.Equal(l, []int{1, 1}) {
		t.Errorf("Nothing = %v", l)
	}
	if l := y.levels(t); !slices.Equal(l, []int{2, 1}) {
		t.Errorf("Levels = %v", l)
	}
	if l, ok := y.burn(t, []int{1, 0}); !slices.Equal(l, []int{1, 2}) || !ok {
		t.Errorf("Burn = %v, %t", l, ok)
	}
	if l, ok := y.burn(t, []int{0, 0}); len(l) != 0 || ok {
		t.Errorf("Burn = %v, %t", l, ok)
	}
	y = yard{"three edges", 2, pairs(0, 1, 0, 1, 0, 1)}
	if n, l, k, low := y.count(t), y.group(t), y.orderOf(t, []int{1}), y.low(t, []int{5}); n != 3 || !slices.Equal(l, []int{3}) || k != 3 || !slices.Equal(low, []int{2}) {
		t.Errorf("Count, Group, Order, Low = %d, %v, %d, %v", n, l, k, low)
	}
}

// DOC.md's first example: one bar goes to the sink, the other one to a neighbour.
func TestSettleTwoBars(t *testing.T) {
	y := yard{"path", 3, path(3)}
	if l, times := y.settle(t, []int{2, 0}); !slices.Equal(l, []int{1, 0}) || !slices.Equal(times, []int{1, 1}) {
		t.Errorf("Settle = %v, %v", l, times)
	}
	y.edges = triangle
	if l, _ := y.settle(t, []int{2, 0}); !slices.Equal(l, []int{0, 1}) {
		t.Errorf("Settle = %v", l)
	}
}

func TestSettle(t *testing.T) {
	r := sequence(3)
	for _, y := range yards() {
		for range 6 {
			heaps := r.heaps(y.n, 0, 20)
			l, times := y.settle(t, heaps)
			least := y.order()
			greatest := slices.Clone(least)
			slices.Reverse(greatest)
			for _, order := range [][]int{least, greatest} {
				if m, n := y.settled(heaps, order); !slices.Equal(l, m) || !slices.Equal(times, n) {
					t.Fatalf("%s %v: Settle(%v) = %v, %v, not %v, %v", y.name, y.edges, heaps, l, times, m, n)
				}
			}
		}
	}
}

func TestSettleNone(t *testing.T) {
	for _, y := range yards() {
		none := make([]int, y.n-1)
		for _, heaps := range [][]int{none, y.greatest()} {
			if l, times := y.settle(t, heaps); !slices.Equal(l, heaps) || !slices.Equal(times, none) {
				t.Errorf("%s: Settle(%v) = %v, %v", y.name, heaps, l, times)
			}
		}
	}
}

// The numbers of topplings prove the stable heaps: what each vertex gets and loses adds up.
func TestSettleMostBars(t *testing.T) {
	for _, y := range append(yards(), bigYards()...) {
		heaps := slices.Repeat([]int{api.MaxBars}, y.n-1)
		l, times := y.settle(t, heaps)
		if !y.isStable(l) || slices.Min(l) < 0 {
			t.Errorf("%s %v: Settle = %v", y.name, y.edges, l)
		}
		for i, x := range y.topplings(heaps, l) {
			if x.Cmp(big.NewRat(int64(times[i]), 1)) != 0 {
				t.Errorf("%s %v: Settle says that vertex %d topples %d times, not %v", y.name, y.edges, i+1, times[i], x)
			}
		}
	}
}

func TestBurn(t *testing.T) {
	for _, y := range yards() {
		for _, heaps := range some(y.allStable(), 200) {
			l, ok := y.burn(t, heaps)
			if m := y.burnt(heaps); !slices.Equal(l, m) || ok != (len(m) == y.n-1) {
				t.Fatalf("%s %v: Burn(%v) = %v, %t, not %v", y.name, y.edges, heaps, l, ok, m)
			}
		}
	}
}

// After each vertex, the least one that can burn now is next, even below the last one.
func TestBurnOrder(t *testing.T) {
	y := yard{"path from its end", 5, pairs(0, 4, 4, 3, 3, 1, 4, 2)}
	if l, ok := y.burn(t, []int{0, 0, 1, 2}); !slices.Equal(l, []int{4, 2, 3, 1}) || !ok {
		t.Errorf("Burn = %v, %t", l, ok)
	}
	// 3 does not burn, and 1 behind it does not either
	if l, ok := y.burn(t, []int{0, 0, 0, 2}); !slices.Equal(l, []int{4, 2}) || ok {
		t.Errorf("Burn = %v, %t", l, ok)
	}
}

func TestBurnNotStable(t *testing.T) {
	for _, heaps := range [][]int{{2, 0}, {0, 2}, {1, 2}, {api.MaxBars, api.MaxBars}} {
		if l, ok, e := heap.Burn(3, triangle, heaps); e != api.ErrState || len(l) != 0 || ok {
			t.Errorf("Burn(%v) = %v, %t, %d", heaps, l, ok, e)
		}
	}
}

func TestSum(t *testing.T) {
	r := sequence(4)
	for _, y := range yards() {
		for range 4 {
			a, b := r.heaps(y.n, 0, 12), r.heaps(y.n, 0, 12)
			if l, m := y.sum(t, a, b), y.sum(t, b, a); !slices.Equal(l, m) {
				t.Errorf("%s: Sum(%v, %v) = %v, but %v backwards", y.name, a, b, l, m)
			}
			both, _ := y.settled(plus(a, b), y.order())
			if l := y.sum(t, a, b); !slices.Equal(l, both) {
				t.Errorf("%s: Sum(%v, %v) = %v, not %v", y.name, a, b, l, both)
			}
		}
	}
}

func TestSumMostBars(t *testing.T) {
	for _, y := range append(yards(), bigYards()...) {
		most := slices.Repeat([]int{api.MaxBars}, y.n-1)
		if l := y.sum(t, most, most); !y.isStable(l) || !y.equivalent(l, plus(most, most)) {
			t.Errorf("%s %v: Sum = %v", y.name, y.edges, l)
		}
	}
}

func TestAgain(t *testing.T) {
	eachSigned(t, func(y yard, heaps []int) {
		if l := y.again(t, heaps); !y.isRecurrent(l) || !y.equivalent(l, heaps) {
			t.Errorf("%s %v: Again(%v) = %v", y.name, y.edges, heaps, l)
		}
	})
}

func TestLow(t *testing.T) {
	eachSigned(t, func(y yard, heaps []int) {
		if l := y.low(t, heaps); !y.isSuperstable(l) || !y.equivalent(l, heaps) {
			t.Errorf("%s %v: Low(%v) = %v", y.name, y.edges, heaps, l)
		}
	})
}

func TestNothing(t *testing.T) {
	for _, y := range append(yards(), bigYards()...) {
		none := make([]int, y.n-1)
		if l := y.nothing(t); !y.isRecurrent(l) || !y.equivalent(l, none) {
			t.Errorf("%s %v: Nothing = %v", y.name, y.edges, l)
		}
	}
}

func TestOrder(t *testing.T) {
	eachSigned(t, func(y yard, heaps []int) {
		k := big.NewInt(1)
		for _, x := range y.topplings(heaps, make([]int, y.n-1)) {
			common := new(big.Int).GCD(nil, nil, k, x.Denom())
			k.Mul(k, new(big.Int).Div(x.Denom(), common))
		}
		if l := y.orderOf(t, heaps); k.Cmp(big.NewInt(int64(l))) != 0 {
			t.Errorf("%s %v: Order(%v) = %d, not %v", y.name, y.edges, heaps, l, k)
		}
	})
}

func TestOrderOfNothing(t *testing.T) {
	for _, y := range append(yards(), bigYards()...) {
		if k := y.orderOf(t, make([]int, y.n-1)); k != 1 {
			t.Errorf("%s: Order of no bars = %d", y.name, k)
		}
		if k := y.orderOf(t, y.nothing(t)); k != 1 {
			t.Errorf("%s: Order of Nothing = %d", y.name, k)
		}
	}
}

func TestGroupKnown(t *testing.T) {
	cases := []struct {
		y    yard
		want []int
	}{
		{yard{"path", 8, path(8)}, nil},
		{yard{"edge", 2, pairs(0, 1)}, nil},
		{yard{"twenty edges", 2, slices.Repeat(pairs(0, 1), 20)}, []int{20}},
		{yard{"ring", 8, append(path(8), api.Pair{A: 0, B: 7})}, []int{8}},
		{yard{"four complete", 4, complete(4)}, []int{4, 4}},
		{yard{"five complete", 5, complete(5)}, []int{5, 5, 5}},
		{yard{"six complete", 6, complete(6)}, []int{6, 6, 6, 6}},
		{yard{"two and three", 3, pairs(0, 1, 0, 1, 1, 2, 1, 2, 1, 2)}, []int{6}},
		{yard{"two and four", 3, pairs(0, 1, 0, 1, 1, 2, 1, 2, 1, 2, 1, 2)}, []int{2, 4}},
		{yard{"six and four", 3, append(slices.Repeat(pairs(0, 1), 6), slices.Repeat(pairs(1, 2), 4)...)}, []int{2, 12}},
		{yard{"three, one, three", 4, pairs(0, 1, 0, 1, 0, 1, 1, 2, 2, 3, 2, 3, 2, 3)}, []int{3, 3}},
	}
	for _, c := range cases {
		if l := c.y.group(t); !slices.Equal(l, c.want) {
			t.Errorf("%s: Group = %v, not %v", c.y.name, l, c.want)
		}
	}
}

// How many elements d annihilates, for every d, tells one abelian group from all others.
func TestGroup(t *testing.T) {
	for _, y := range yards() {
		group := y.group(t)
		for i, f := range group {
			if f < 2 || i > 0 && f%group[i-1] != 0 {
				t.Errorf("%s %v: Group = %v", y.name, y.edges, group)
			}
		}
		var orders []int
		for _, heaps := range y.allRecurrent() {
			orders = append(orders, y.orderOf(t, heaps))
		}
		for d := range y.count(t) + 1 {
			here, there := 0, 1
			for _, k := range orders {
				if d%k == 0 {
					here++
				}
			}
			for _, f := range group {
				there *= gcd(d, f)
			}
			if here != there {
				t.Fatalf("%s %v: Group = %v, but %d times an element is nothing for %d of them", y.name, y.edges, group, d, here)
			}
		}
	}
}

func TestCount(t *testing.T) {
	for _, y := range yards() {
		if n, m := y.count(t), len(y.allRecurrent()); n != m {
			t.Errorf("%s %v: Count = %d, not %d", y.name, y.edges, n, m)
		}
	}
}

func TestLevels(t *testing.T) {
	for _, y := range yards() {
		var want []int
		for _, heaps := range y.allRecurrent() {
			level := y.degree(0) - len(y.edges)
			for _, h := range heaps {
				level += h
			}
			for len(want) <= level {
				want = append(want, 0)
			}
			want[level]++
		}
		if l := y.levels(t); !slices.Equal(l, want) {
			t.Errorf("%s %v: Levels = %v, not %v", y.name, y.edges, l, want)
		}
	}
}

func TestLevelsFull(t *testing.T) {
	y := yard{"20000", 8, pairs(1, 2, 2, 3, 3, 4, 4, 5, 5, 6, 6, 7, 0, 1, 0, 1, 0, 2, 0, 7, 3, 4, 3, 4, 3, 4, 1, 2, 1, 2, 5, 6, 5, 6)}
	if n := len(y.allStable()); n != api.MaxStable {
		t.Fatalf("%d stable heaps", n)
	}
	if l := y.levels(t); total(l) != y.count(t) {
		t.Errorf("Levels = %v, Count %d", l, y.count(t))
	}
	y = yard{"20160", 8, pairs(1, 2, 2, 3, 3, 4, 4, 5, 5, 6, 6, 7, 1, 2, 1, 2, 1, 3, 1, 3, 1, 4, 2, 5, 2, 4, 0, 1, 0, 3, 0, 5, 0, 6, 0, 7)}
	if n := len(y.allStable()); n <= api.MaxStable || n > 20160 {
		t.Fatalf("%d stable heaps", n)
	}
	if l, e := heap.Levels(y.n, y.edges); e != api.ErrFull || len(l) != 0 {
		t.Errorf("Levels = %v, %d", l, e)
	}
}

// A yard with more stable heaps than Levels looks at is as good as any for the other functions.
func TestFullOnlyForLevels(t *testing.T) {
	y := bigYards()[2]
	if l, e := heap.Levels(y.n, y.edges); e != api.ErrFull || len(l) != 0 {
		t.Fatalf("Levels = %v, %d", l, e)
	}
	if n := y.count(t); n != y.trees() {
		t.Errorf("Count = %d", n)
	}
}

// every function, with the least number of its heaps, or 1 if it takes none
type function struct {
	name  string
	least int
	call  func(n int, edges []api.Pair, heaps []int) (zero bool, e api.Errno)
}

func functions() []function {
	list := func(f func(int, []api.Pair) ([]int, api.Errno)) func(int, []api.Pair, []int) (bool, api.Errno) {
		return func(n int, edges []api.Pair, _ []int) (bool, api.Errno) {
			l, e := f(n, edges)
			return len(l) == 0, e
		}
	}
	heaps := func(f func(int, []api.Pair, []int) ([]int, api.Errno)) func(int, []api.Pair, []int) (bool, api.Errno) {
		return func(n int, edges []api.Pair, heaps []int) (bool, api.Errno) {
			l, e := f(n, edges, heaps)
			return len(l) == 0, e
		}
	}
	return []function{
		{"Settle", 0, func(n int, edges []api.Pair, heaps []int) (bool, api.Errno) {
			l, times, e := heap.Settle(n, edges, heaps)
			return len(l) == 0 && len(times) == 0, e
		}},
		{"Burn", 0, func(n int, edges []api.Pair, heaps []int) (bool, api.Errno) {
			l, ok, e := heap.Burn(n, edges, heaps)
			return len(l) == 0 && !ok, e
		}},
		{"Sum, the first heaps", 0, heaps(func(n int, edges []api.Pair, heaps []int) ([]int, api.Errno) {
			return heap.Sum(n, edges, heaps, make([]int, 2))
		})},
		{"Sum, the second heaps", 0, heaps(func(n int, edges []api.Pair, heaps []int) ([]int, api.Errno) {
			return heap.Sum(n, edges, make([]int, 2), heaps)
		})},
		{"Again", -api.MaxBars, heaps(heap.Again)},
		{"Low", -api.MaxBars, heaps(heap.Low)},
		{"Order", -api.MaxBars, func(n int, edges []api.Pair, heaps []int) (bool, api.Errno) {
			k, e := heap.Order(n, edges, heaps)
			return k == 0, e
		}},
		{"Nothing", 1, list(heap.Nothing)},
		{"Group", 1, list(heap.Group)},
		{"Count", 1, func(n int, edges []api.Pair, _ []int) (bool, api.Errno) {
			k, e := heap.Count(n, edges)
			return k == 0, e
		}},
		{"Levels", 1, list(heap.Levels)},
	}
}

func TestNoYard(t *testing.T) {
	cases := []yard{
		{"no vertices", 0, nil},
		{"one vertex", 1, nil},
		{"fewer than none", -1, nil},
		{"far fewer than none", math.MinInt, nil},
		{"nine vertices", 9, path(9)},
		{"too many vertices by far", math.MaxInt, triangle},
		{"21 edges", 2, slices.Repeat(pairs(0, 1), 21)},
		{"an edge to itself", 2, pairs(0, 1, 1, 1)},
		{"an edge of the river to itself", 2, pairs(0, 0, 0, 1)},
		{"an edge to a vertex below 0", 2, pairs(0, 1, -1, 0)},
		{"an edge from a vertex below 0", 2, pairs(0, 1, 0, -1)},
		{"an edge from n", 3, pairs(0, 1, 1, 2, 3, 1)},
		{"an edge to n", 3, pairs(0, 1, 1, 2, 1, 3)},
		{"an edge between vertices far off", 2, pairs(0, 1, math.MaxInt, math.MinInt)},
		{"no edges", 2, nil},
		{"a vertex apart", 3, pairs(0, 1, 1, 0)},
		{"the river apart", 3, pairs(1, 2)},
		{"the river apart from a ring", 4, pairs(1, 2, 2, 3, 3, 1)},
		{"two parts", 4, pairs(0, 1, 2, 3)},
		{"a ring apart", 6, pairs(0, 1, 1, 2, 3, 4, 4, 5, 5, 3)},
	}
	for _, y := range cases {
		for _, f := range functions() {
			// with heaps that are right, and with none: ErrArg comes before ErrForm
			for _, heaps := range [][]int{make([]int, min(max(y.n-1, 0), 8)), {1, 2, -3}} {
				if zero, e := f.call(y.n, y.edges, heaps); e != api.ErrArg || !zero {
					t.Errorf("%s: %s: %d, zero %t", f.name, y.name, e, zero)
				}
			}
		}
	}
}

func TestNoHeaps(t *testing.T) {
	for _, f := range functions() {
		if f.least > 0 {
			continue
		}
		// where Burn could say ErrState, ErrForm comes first
		cases := [][]int{nil, {}, {0}, {0, 0, 0}, {5}, {f.least - 1, 0}, {0, f.least - 1}, {5, f.least - 1}, {api.MaxBars + 1, 0}, {0, api.MaxBars + 1}, {math.MinInt, math.MaxInt}, {0, math.MinInt}, {math.MaxInt, 0}}
		for _, heaps := range cases {
			if zero, e := f.call(3, triangle, heaps); e != api.ErrForm || !zero {
				t.Errorf("%s(%v): %d, zero %t", f.name, heaps, e, zero)
			}
		}
		for _, heaps := range [][]int{{f.least, 0}, {0, f.least}, {api.MaxBars, 0}, {f.least, api.MaxBars}} {
			if _, e := f.call(3, triangle, heaps); e != api.OK && !(f.name == "Burn" && e == api.ErrState) {
				t.Errorf("%s(%v): %d", f.name, heaps, e)
			}
		}
	}
}

func (y yard) greatest() []int {
	var l []int
	for v := 1; v < y.n; v++ {
		l = append(l, y.degree(v)-1)
	}
	return l
}

// eachSigned calls f with yards and heaps that may be below 0.
func eachSigned(t *testing.T, f func(y yard, heaps []int)) {
	t.Helper()
	r := sequence(5)
	for _, y := range append(yards(), bigYards()...) {
		for range 4 {
			f(y, r.heaps(y.n, -9, 9))
			f(y, r.heaps(y.n, -api.MaxBars, api.MaxBars))
		}
		f(y, make([]int, y.n-1))
		f(y, slices.Repeat([]int{api.MaxBars}, y.n-1))
		f(y, slices.Repeat([]int{-api.MaxBars}, y.n-1))
	}
}

// some returns at most n elements, from all over the list.
func some(l [][]int, n int) [][]int {
	var s [][]int
	for i := 0; i < len(l); i += 1 + len(l)/n {
		s = append(s, l[i])
	}
	return s
}

func plus(a, b []int) []int {
	l := slices.Clone(a)
	for i := range l {
		l[i] += b[i]
	}
	return l
}

func total(l []int) int {
	n := 0
	for _, x := range l {
		n += x
	}
	return n
}

func gcd(a, b int) int {
	for b != 0 {
		a, b = b, a%b
	}
	return a
}
