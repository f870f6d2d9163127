package herd_test

import (
	"math/big"
	"slices"
	"strconv"
	"testing"

	"pritchel/api"
)

// U1
func TestTuranIsGreatest(t *testing.T) {
	each(func(n int, pairs []api.Pair) {
		r := len(groupOf(t, n, pairs))
		if count := len(tableOf(n, pairs).pairs()); count > mostOf(t, n, r) {
			t.Errorf("%v: %d pairs, groups of %d, but Most(%d, %d) = %d", pairs, count, r, n, r, mostOf(t, n, r))
		}
	})
	for n := 1; n <= api.MaxHerd; n++ {
		for r := 1; r <= api.MaxHerd; r++ {
			pairs := turanOf(t, n, r)
			if len(pairs) != mostOf(t, n, r) {
				t.Errorf("Turan(%d, %d) has %d pairs, Most is %d", n, r, len(pairs), mostOf(t, n, r))
			}
			if g := groupOf(t, n, pairs); len(g) != min(n, r) {
				t.Errorf("Turan(%d, %d) has the group %v", n, r, g)
			}
		}
	}
}

// U2
func TestNoWeightsAreWorthMore(t *testing.T) {
	each(func(n int, pairs []api.Pair) {
		k := int64(len(groupOf(t, n, pairs)))
		x, best := greatestOf(t, n, pairs)
		if x != num(big.NewRat(k-1, 2*k)) {
			t.Errorf("Greatest(%d, %v) = %s, Group has %d", n, pairs, x, k)
		}
		if y := worthOf(t, n, pairs, best); y != x {
			t.Errorf("Greatest(%d, %v) = %s, but %v is worth %s", n, pairs, x, best, y)
		}
	})
	weighted(func(n int, pairs []api.Pair, w []*big.Rat) {
		greatest, _ := greatestOf(t, n, pairs)
		worth := worthOf(t, n, pairs, nums(w))
		l := rats(t, []api.Num{worth, greatest})
		if l[0].Cmp(l[1]) > 0 {
			t.Errorf("Greatest(%d, %v) = %s, but %v is worth %s", n, pairs, greatest, nums(w), worth)
		}
	})
}

// U3
func TestShiftIsNoLoss(t *testing.T) {
	weighted(func(n int, pairs []api.Pair, w []*big.Rat) {
		shifted := shiftOf(t, n, pairs, nums(w))
		after := rats(t, shifted)
		before, worth := rats(t, []api.Num{worthOf(t, n, pairs, nums(w))})[0], tableOf(n, pairs).worth(after)
		if worth.Cmp(before) < 0 {
			t.Errorf("Shift(%d, %v, %v) = %v: worth %s, then %s", n, pairs, nums(w), shifted, num(before), num(worth))
		}
		var horses []int
		for i, x := range shifted {
			if x != "0" {
				horses = append(horses, i)
			}
		}
		if !tableOf(n, pairs).alike(horses, true) {
			t.Errorf("Shift(%d, %v, %v) = %v: no group", n, pairs, nums(w), shifted)
		}
		if slices.ContainsFunc(after, isLong) {
			return
		}
		if again := shiftOf(t, n, pairs, shifted); !slices.Equal(again, shifted) {
			t.Errorf("Shift(%d, %v, %v) = %v", n, pairs, shifted, again)
		}
	})
}

// U4
func TestGoodman(t *testing.T) {
	each(func(n int, pairs []api.Pair) {
		twice := n * (n - 1) * (n - 2) / 3
		for i := range n {
			degree := tableOf(n, pairs).degree(i)
			twice -= degree * (n - 1 - degree)
		}
		if along, apart := triplesOf(t, n, pairs); 2*(along+apart) != twice {
			t.Errorf("Triples(%d, %v) = %d, %d, not %d twice", n, pairs, along, apart, twice)
		}
	})
}

// U5
func TestNumberOfColors(t *testing.T) {
	each(func(n int, pairs []api.Pair) {
		colors, along := colorsOf(t, n, pairs), tableOf(n, pairs)
		degree := 0
		for i := range n {
			degree = max(degree, along.degree(i))
		}
		if d := different(colors); !along.separates(colors) || d < len(groupOf(t, n, pairs)) || d > degree+1 {
			t.Errorf("Colors(%d, %v) = %v", n, pairs, colors)
		}
	})
}

// U6
func TestMantel(t *testing.T) {
	for n := 1; n <= api.MaxParts; n++ {
		if most := mostOf(t, n, 2); most != n*n/4 {
			t.Errorf("Most(%d, 2) = %d", n, most)
		}
	}
}

// U7
func TestFreeIsFull(t *testing.T) {
	each(func(n int, pairs []api.Pair) {
		for r := 1; r <= api.MaxHerd; r++ {
			kept := freeOf(t, n, r, pairs)
			if g := groupOf(t, n, kept); len(g) > r {
				t.Errorf("Free(%d, %d, %v) = %v has the group %v", n, r, pairs, kept, g)
			}
			for _, p := range tableOf(n, pairs).pairs() {
				more := append(slices.Clone(kept), p)
				if !slices.Contains(kept, p) && len(groupOf(t, n, more)) <= r {
					t.Errorf("Free(%d, %d, %v) = %v, but %v may be added", n, r, pairs, kept, p)
				}
			}
		}
	})
}

// U8
func TestSix(t *testing.T) {
	for _, pairs := range allPairs(6) {
		if along, apart := triplesOf(t, 6, pairs); along+apart == 0 {
			t.Errorf("Triples(6, %v) = 0, 0", pairs)
		}
	}
	each(func(n int, pairs []api.Pair) {
		if along, apart := triplesOf(t, n, pairs); n >= 6 && along+apart == 0 {
			t.Errorf("Triples(%d, %v) = 0, 0", n, pairs)
		}
	})
}

// U9
func TestAlternatingSum(t *testing.T) {
	sum := func(along table, horses []int) int {
		if len(horses) == 0 {
			return 1
		}
		small := tableOf(len(horses), nil)
		for i, x := range horses {
			for j, y := range horses {
				small[i][j] = along[x][y]
			}
		}
		sum, sign := 0, 1
		for _, count := range groupsOf(t, len(horses), small.pairs()) {
			sum, sign = sum+sign*count, -sign
		}
		return sum
	}
	each(func(n int, pairs []api.Pair) {
		along := tableOf(n, pairs)
		var all []int
		for i := range n {
			all = append(all, i)
		}
		for i := range n {
			others := slices.Delete(slices.Clone(all), i, i+1)
			friends := slices.DeleteFunc(slices.Clone(all), func(j int) bool { return !along[i][j] })
			if x, y := sum(along, all), sum(along, others)-sum(along, friends); x != y {
				t.Errorf("Groups(%d, %v): %d, but %d without %d", n, pairs, x, y, i)
			}
		}
	})
}

// results returns all results about a herd.
func results(t *testing.T, n int, pairs []api.Pair, weights []api.Num) []string {
	t.Helper()
	worth, best := greatestOf(t, n, pairs)
	along, apart := triplesOf(t, n, pairs)
	l := []string{string(worth), string(worthOf(t, n, pairs, weights))}
	for _, x := range slices.Concat(best, shiftOf(t, n, pairs, weights)) {
		l = append(l, string(x))
	}
	numbers := slices.Concat(groupOf(t, n, pairs), groupsOf(t, n, pairs), colorsOf(t, n, pairs), []int{along, apart})
	for r := 1; r <= api.MaxHerd; r++ {
		for _, p := range slices.Concat(freeOf(t, n, r, pairs), turanOf(t, n, r)) {
			numbers = append(numbers, p.A, p.B)
		}
	}
	for _, x := range numbers {
		l = append(l, strconv.Itoa(x))
	}
	return l
}

// R5 and R6: arguments stay as they are, also behind their ends, and results depend on them alone.
func TestArguments(t *testing.T) {
	r := sequence(3)
	for n := 1; n <= api.MaxHerd; n++ {
		for ofTen := range 11 {
			pairs, weights := r.pairs(n, ofTen), nums(r.weights(n, 2))
			longPairs := append(slices.Clone(pairs), r.pairs(9, 5)...)
			longWeights := append(slices.Clone(weights), "1/2", "x")
			pairsBefore, weightsBefore := slices.Clone(longPairs), slices.Clone(longWeights)
			want := results(t, n, pairs, weights)
			if l := results(t, n, longPairs[:len(pairs)], longWeights[:n]); !slices.Equal(l, want) {
				t.Errorf("%v, %v: %v, then %v", pairs, weights, want, l)
			}
			if !slices.Equal(longPairs, pairsBefore) || !slices.Equal(longWeights, weightsBefore) {
				t.Fatalf("arguments were changed from %v, %v to %v, %v", pairsBefore, weightsBefore, longPairs, longWeights)
			}
			if l := results(t, n, pairs, weights); !slices.Equal(l, want) {
				t.Errorf("%v, %v: %v, then %v", pairs, weights, want, l)
			}
		}
	}
}

// What is done to a result is seen in no argument, and in no other result.
func TestResultsApart(t *testing.T) {
	r := sequence(4)
	n := api.MaxHerd
	pairs, weights := turan(n, 4).pairs(), nums(r.weights(n, 2))
	pairsBefore, weightsBefore, want := slices.Clone(pairs), slices.Clone(weights), results(t, n, pairs, weights)
	_, best := greatestOf(t, n, pairs)
	shifted := shiftOf(t, n, pairs, weights)
	clear(best[:cap(best)])
	clear(shifted[:cap(shifted)])
	for _, l := range [][]int{groupOf(t, n, pairs), groupsOf(t, n, pairs), colorsOf(t, n, pairs)} {
		clear(l[:cap(l)])
	}
	for _, l := range [][]api.Pair{freeOf(t, n, n, pairs), freeOf(t, n, 2, pairs), turanOf(t, n, 4)} {
		clear(l[:cap(l)])
	}
	if !slices.Equal(pairs, pairsBefore) || !slices.Equal(weights, weightsBefore) {
		t.Fatalf("arguments were changed")
	}
	if l := results(t, n, pairs, weights); !slices.Equal(l, want) {
		t.Errorf("%v, then %v", want, l)
	}
}

// R4: no pairs are a herd in which nobody gets along; no weights are malformed.
func TestNilAndEmpty(t *testing.T) {
	for _, pairs := range [][]api.Pair{nil, {}, row()[:0]} {
		if l := results(t, 2, pairs, []api.Num{"1/3", "2/3"}); !slices.Equal(l[:9], []string{"0", "0", "1", "0", "1", "0", "0", "1", "2"}) {
			t.Errorf("no pairs: %v", l)
		}
		for _, weights := range [][]api.Num{nil, {}} {
			for name, e := range errorsOf(t, 1, pairs, weights) {
				if (name == "Worth" || name == "Shift") != (e == api.ErrForm) {
					t.Errorf("%s: error %d", name, e)
				}
			}
		}
	}
}
