package herd_test

import (
	"math/big"
	"slices"
	"testing"

	"pritchel/api"
	"pritchel/herd"
)

// This file works by the definitions of the chapter, as slowly and plainly as they are written, and makes cases.

// table tells which horses get along.
type table [][]bool

func tableOf(n int, pairs []api.Pair) table {
	t := make(table, n)
	for i := range t {
		t[i] = make([]bool, n)
	}
	for _, p := range pairs {
		t[p.A][p.B], t[p.B][p.A] = true, true
	}
	return t
}

func (t table) pairs() []api.Pair {
	var l []api.Pair
	for i := range t {
		for j := i + 1; j < len(t); j++ {
			if t[i][j] {
				l = append(l, api.Pair{A: i, B: j})
			}
		}
	}
	return l
}

func (t table) degree(horse int) int {
	count := 0
	for _, is := range t[horse] {
		if is {
			count++
		}
	}
	return count
}

// alike reports whether of any two of these horses both get along, or do not, as is said.
func (t table) alike(horses []int, along bool) bool {
	for _, i := range horses {
		for _, j := range horses {
			if i != j && t[i][j] != along {
				return false
			}
		}
	}
	return true
}

// sets returns all sets of n horses as rising slices.
func sets(n int) [][]int {
	all := [][]int{{}}
	for i := range n {
		for _, s := range all {
			all = append(all, append(slices.Clone(s), i))
		}
	}
	return all
}

func (t table) groups() [][]int {
	return slices.DeleteFunc(sets(len(t)), func(s []int) bool { return !t.alike(s, true) })
}

// first returns the lexicographically least one of the greatest groups.
func (t table) first() []int {
	var best []int
	for _, g := range t.groups() {
		if len(g) > len(best) || len(g) == len(best) && slices.Compare(g, best) < 0 {
			best = g
		}
	}
	return best
}

func (t table) counts() []int {
	l := make([]int, len(t.first())+1)
	for _, g := range t.groups() {
		l[len(g)]++
	}
	return l
}

// triples returns how many sets of three horses are of one kind.
func (t table) triples(along bool) int {
	count := 0
	for _, s := range sets(len(t)) {
		if len(s) == 3 && t.alike(s, along) {
			count++
		}
	}
	return count
}

func (t table) separates(colors []int) bool {
	for _, p := range t.pairs() {
		if colors[p.A] == colors[p.B] {
			return false
		}
	}
	return true
}

func different(colors []int) int {
	known := map[int]bool{}
	for _, c := range colors {
		known[c] = true
	}
	return len(known)
}

// lists yields lists of n numbers in lexicographic order: all below n, or, if they are many, those in which no number comes before a lower one. (Of any others, that many different numbers make a lesser list, if they are numbered as they come.)
func lists(n int, yield func([]int)) {
	var extend func(l []int, next int)
	extend = func(l []int, next int) {
		if len(l) == n {
			yield(l)
			return
		}
		end := next + 1
		if n <= 5 {
			end = n
		}
		for c := range end {
			extend(append(slices.Clone(l), c), max(next, c+1))
		}
	}
	extend(nil, 0)
}

func (t table) colors() []int {
	var best []int
	lists(len(t), func(l []int) {
		if t.separates(l) && (best == nil || different(l) < different(best)) {
			best = l
		}
	})
	return best
}

// parts returns the part of each horse of Turán's herd.
func parts(n, r int) []int {
	sizes := make([]int, r)
	for i := range n {
		sizes[i%r]++
	}
	var l []int
	for part, size := range sizes {
		l = append(l, slices.Repeat([]int{part}, size)...)
	}
	return l
}

func turan(n, r int) table {
	t := tableOf(n, nil)
	part := parts(n, r)
	for i := range t {
		for j := range t {
			t[i][j] = part[i] != part[j]
		}
	}
	return t
}

func (t table) worth(w []*big.Rat) *big.Rat {
	sum := new(big.Rat)
	for _, p := range t.pairs() {
		sum.Add(sum, new(big.Rat).Mul(w[p.A], w[p.B]))
	}
	return sum
}

func (t table) pull(w []*big.Rat, horse int) *big.Rat {
	sum := new(big.Rat)
	for i, is := range t[horse] {
		if is {
			sum.Add(sum, w[i])
		}
	}
	return sum
}

// enemies returns the first two horses with weights that do not get along, if there are any.
func (t table) enemies(w []*big.Rat) (int, int, bool) {
	for i := range t {
		for j := i + 1; j < len(t); j++ {
			if !t[i][j] && w[i].Sign() > 0 && w[j].Sign() > 0 {
				return i, j, true
			}
		}
	}
	return 0, 0, false
}

func (t table) shifted(weights []*big.Rat) []*big.Rat {
	w := slices.Clone(weights)
	i, j, are := t.enemies(w)
	for are {
		sum := new(big.Rat).Add(w[i], w[j])
		if t.pull(w, i).Cmp(t.pull(w, j)) >= 0 {
			w[i], w[j] = sum, new(big.Rat)
		} else {
			w[i], w[j] = new(big.Rat), sum
		}
		i, j, are = t.enemies(w)
	}
	return w
}

func (t table) free(r int) []api.Pair {
	kept := tableOf(len(t), nil)
	for _, p := range t.pairs() {
		kept[p.A][p.B], kept[p.B][p.A] = true, true
		if len(kept.first()) > r {
			kept[p.A][p.B], kept[p.B][p.A] = false, false
		}
	}
	return kept.pairs()
}

func num(x *big.Rat) api.Num {
	return api.Num(x.RatString())
}

func nums(w []*big.Rat) []api.Num {
	var l []api.Num
	for _, x := range w {
		l = append(l, num(x))
	}
	return l
}

func rats(t *testing.T, l []api.Num) []*big.Rat {
	t.Helper()
	var w []*big.Rat
	for _, x := range l {
		r, is := new(big.Rat).SetString(string(x))
		if !is || num(r) != x {
			t.Fatalf("%q is no Num", x)
		}
		w = append(w, r)
	}
	return w
}

// sequence is numbers that look as if they had no order, and are always the same.
type sequence uint64

func (r *sequence) below(n int) int {
	*r = *r*6364136223846793005 + 1442695040888963407
	return int(*r >> 33 % sequence(n))
}

// pairs returns pairs of n horses in any order, some twice and both ways round; of ten pairs about so many are there.
func (r *sequence) pairs(n, ofTen int) []api.Pair {
	var l []api.Pair
	for i := range n {
		for j := range n {
			if i != j && r.below(20) < ofTen {
				l = append(l, api.Pair{A: i, B: j})
			}
		}
	}
	for i := range l {
		j := r.below(i + 1)
		l[i], l[j] = l[j], l[i]
	}
	return l
}

// weights returns weights of n horses, of which some are 0: one takes what the others leave.
func (r *sequence) weights(n, digits int) []*big.Rat {
	w := make([]*big.Rat, n)
	rest := big.NewRat(1, 1)
	for i := range w {
		w[i] = r.weight(digits)
		if less := new(big.Rat).Sub(rest, w[i]); less.Sign() < 0 || isLong(less) {
			w[i] = new(big.Rat)
		}
		rest.Sub(rest, w[i])
	}
	last := r.below(n)
	w[last].Add(w[last], rest)
	if isLong(w[last]) {
		return r.weights(n, digits)
	}
	return w
}

// isLong reports whether a weight has too many digits. Sums of weights may have.
func isLong(x *big.Rat) bool {
	return len(x.Num().String()) > 12 || len(x.Denom().String()) > 12
}

func (r *sequence) weight(digits int) *big.Rat {
	most := 1
	for range digits {
		most *= 10
	}
	bottom := 1 + r.below(most)
	return big.NewRat(int64(r.below(bottom)), int64(bottom*(1+r.below(5))))
}

// weightsOf returns all weights of n horses that are multiples of 1/whole.
func weightsOf(n, whole int) [][]*big.Rat {
	var all [][]*big.Rat
	var extend func(w []*big.Rat, rest int)
	extend = func(w []*big.Rat, rest int) {
		if len(w) == n-1 {
			all = append(all, append(slices.Clone(w), big.NewRat(int64(rest), int64(whole))))
			return
		}
		for part := range rest + 1 {
			extend(append(slices.Clone(w), big.NewRat(int64(part), int64(whole))), rest-part)
		}
	}
	extend(nil, whole)
	return all
}

// allPairs returns the pairs of all herds of n horses.
func allPairs(n int) [][]api.Pair {
	all := [][]api.Pair{nil}
	for i := range n {
		for j := range i {
			for _, l := range all {
				all = append(all, append(slices.Clone(l), api.Pair{A: i, B: j}))
			}
		}
	}
	return all
}

// each goes through all herds that are small, and some greater ones.
func each(f func(n int, pairs []api.Pair)) {
	for n := 1; n <= 5; n++ {
		for _, pairs := range allPairs(n) {
			f(n, pairs)
		}
	}
	r := sequence(1)
	for n := 2; n <= api.MaxHerd; n++ {
		for ofTen := range 11 {
			f(n, r.pairs(n, ofTen))
			f(n, tableOf(n, r.pairs(n, ofTen)).pairs())
		}
		f(n, turan(n, n).pairs())
		f(n, nil)
		for parts := 2; parts < n; parts++ {
			f(n, turan(n, parts).pairs())
		}
	}
}

func ok(t *testing.T, name string, e api.Errno) {
	t.Helper()
	if e != api.OK {
		t.Fatalf("%s: error %d", name, e)
	}
}

// The following functions fail the test if an error is returned.

func groupOf(t *testing.T, n int, pairs []api.Pair) []int {
	t.Helper()
	l, e := herd.Group(n, pairs)
	ok(t, "Group", e)
	return l
}

func groupsOf(t *testing.T, n int, pairs []api.Pair) []int {
	t.Helper()
	l, e := herd.Groups(n, pairs)
	ok(t, "Groups", e)
	return l
}

func colorsOf(t *testing.T, n int, pairs []api.Pair) []int {
	t.Helper()
	l, e := herd.Colors(n, pairs)
	ok(t, "Colors", e)
	return l
}

func turanOf(t *testing.T, n, r int) []api.Pair {
	t.Helper()
	l, e := herd.Turan(n, r)
	ok(t, "Turan", e)
	return l
}

func mostOf(t *testing.T, n, r int) int {
	t.Helper()
	most, e := herd.Most(n, r)
	ok(t, "Most", e)
	return most
}

func worthOf(t *testing.T, n int, pairs []api.Pair, weights []api.Num) api.Num {
	t.Helper()
	x, e := herd.Worth(n, pairs, weights)
	ok(t, "Worth", e)
	return x
}

func shiftOf(t *testing.T, n int, pairs []api.Pair, weights []api.Num) []api.Num {
	t.Helper()
	l, e := herd.Shift(n, pairs, weights)
	ok(t, "Shift", e)
	return l
}

func greatestOf(t *testing.T, n int, pairs []api.Pair) (api.Num, []api.Num) {
	t.Helper()
	x, l, e := herd.Greatest(n, pairs)
	ok(t, "Greatest", e)
	return x, l
}

func triplesOf(t *testing.T, n int, pairs []api.Pair) (int, int) {
	t.Helper()
	along, apart, e := herd.Triples(n, pairs)
	ok(t, "Triples", e)
	return along, apart
}

func freeOf(t *testing.T, n, r int, pairs []api.Pair) []api.Pair {
	t.Helper()
	l, e := herd.Free(n, r, pairs)
	ok(t, "Free", e)
	return l
}
