package herd_test

import (
	"math"
	"math/big"
	"slices"
	"strings"
	"testing"

	"pritchel/api"
	"pritchel/herd"
)

func row() []api.Pair {
	return []api.Pair{{A: 0, B: 1}, {A: 1, B: 2}}
}

func TestExamples(t *testing.T) {
	if l := groupOf(t, 3, row()); !slices.Equal(l, []int{0, 1}) {
		t.Errorf("Group = %v", l)
	}
	if l := groupsOf(t, 3, row()); !slices.Equal(l, []int{1, 3, 2}) {
		t.Errorf("Groups = %v", l)
	}
	if l := colorsOf(t, 3, row()); !slices.Equal(l, []int{0, 1, 0}) {
		t.Errorf("Colors = %v", l)
	}
	if x, l := greatestOf(t, 3, row()); x != "1/4" || !slices.Equal(l, []api.Num{"1/2", "1/2", "0"}) {
		t.Errorf("Greatest = %s, %v", x, l)
	}
	if l := turanOf(t, 4, 2); !slices.Equal(l, []api.Pair{{A: 0, B: 2}, {A: 0, B: 3}, {A: 1, B: 2}, {A: 1, B: 3}}) {
		t.Errorf("Turan = %v", l)
	}
	if most := mostOf(t, 4, 2); most != 4 {
		t.Errorf("Most = %d", most)
	}
	w := []api.Num{"1/2", "1/4", "1/4"}
	if x := worthOf(t, 3, row(), w); x != "3/16" {
		t.Errorf("Worth = %s", x)
	}
	l := shiftOf(t, 3, row(), w)
	if !slices.Equal(l, []api.Num{"3/4", "1/4", "0"}) {
		t.Errorf("Shift = %v", l)
	}
	if x := worthOf(t, 3, row(), l); x != "3/16" {
		t.Errorf("Worth = %s", x)
	}
}

func TestGroup(t *testing.T) {
	each(func(n int, pairs []api.Pair) {
		along := tableOf(n, pairs)
		if l := groupOf(t, n, pairs); !slices.Equal(l, along.first()) {
			t.Errorf("Group(%d, %v) = %v, not %v", n, pairs, l, along.first())
		}
		if l := groupsOf(t, n, pairs); !slices.Equal(l, along.counts()) {
			t.Errorf("Groups(%d, %v) = %v, not %v", n, pairs, l, along.counts())
		}
	})
}

func TestColors(t *testing.T) {
	each(func(n int, pairs []api.Pair) {
		want := tableOf(n, pairs).colors()
		if l := colorsOf(t, n, pairs); !slices.Equal(l, want) {
			t.Errorf("Colors(%d, %v) = %v, not %v", n, pairs, l, want)
		}
	})
}

// A ring of five horses has no group of three, but needs three numbers; with a horse in the middle, four.
func TestColorsOfRings(t *testing.T) {
	ring := []api.Pair{{A: 0, B: 1}, {A: 1, B: 2}, {A: 2, B: 3}, {A: 3, B: 4}, {A: 4, B: 0}}
	if l := colorsOf(t, 5, ring); !slices.Equal(l, []int{0, 1, 0, 1, 2}) {
		t.Errorf("Colors = %v", l)
	}
	for i := range 5 {
		ring = append(ring, api.Pair{A: 5, B: i})
	}
	if l := colorsOf(t, 6, ring); !slices.Equal(l, []int{0, 1, 0, 1, 2, 3}) {
		t.Errorf("Colors = %v", l)
	}
}

func TestTuran(t *testing.T) {
	for n := 1; n <= api.MaxHerd; n++ {
		for r := 1; r <= api.MaxHerd; r++ {
			if l := turanOf(t, n, r); !slices.Equal(l, turan(n, r).pairs()) {
				t.Errorf("Turan(%d, %d) = %v, not %v", n, r, l, turan(n, r).pairs())
			}
		}
	}
	if l := turanOf(t, 5, 3); !slices.Equal(l, []api.Pair{{A: 0, B: 2}, {A: 0, B: 3}, {A: 0, B: 4}, {A: 1, B: 2}, {A: 1, B: 3}, {A: 1, B: 4}, {A: 2, B: 4}, {A: 3, B: 4}}) {
		t.Errorf("Turan(5, 3) = %v", l)
	}
}

func TestMost(t *testing.T) {
	for r := 1; r <= api.MaxParts; r++ {
		sizes, pairs := make([]int, r), 0
		for n := 1; n <= api.MaxParts; n++ {
			part := (n - 1) % r
			pairs += n - 1 - sizes[part]
			sizes[part]++
			if (n < 40 && r < 40 || (n+r)%37 == 0 || n > 990) && mostOf(t, n, r) != pairs {
				t.Fatalf("Most(%d, %d) = %d, not %d", n, r, mostOf(t, n, r), pairs)
			}
		}
	}
	for _, c := range [][3]int{{1, 1, 0}, {1000, 1, 0}, {1, 1000, 0}, {1000, 1000, 499500}, {1000, 2, 250000}, {999, 2, 249500}, {1000, 3, 333333}} {
		if most := mostOf(t, c[0], c[1]); most != c[2] {
			t.Errorf("Most(%d, %d) = %d, not %d", c[0], c[1], most, c[2])
		}
	}
}

// weighted goes through herds with weights.
func weighted(f func(n int, pairs []api.Pair, w []*big.Rat)) {
	for n := 1; n <= 4; n++ {
		for _, pairs := range allPairs(n) {
			for _, w := range weightsOf(n, 7-n) {
				f(n, pairs, w)
			}
		}
	}
	r := sequence(2)
	for n := 1; n <= api.MaxHerd; n++ {
		for range 60 {
			digits := 1 + r.below(9)
			if n > 3 {
				digits = 1 + r.below(3)
			}
			f(n, r.pairs(n, r.below(11)), r.weights(n, digits))
		}
	}
	for ofTen := range 11 {
		f(api.MaxHerd, r.pairs(api.MaxHerd, ofTen), long())
	}
}

func TestWorth(t *testing.T) {
	weighted(func(n int, pairs []api.Pair, w []*big.Rat) {
		want := num(tableOf(n, pairs).worth(w))
		if x := worthOf(t, n, pairs, nums(w)); x != want {
			t.Errorf("Worth(%d, %v, %v) = %s, not %s", n, pairs, nums(w), x, want)
		}
	})
}

func TestShift(t *testing.T) {
	weighted(func(n int, pairs []api.Pair, w []*big.Rat) {
		want := nums(tableOf(n, pairs).shifted(w))
		if l := shiftOf(t, n, pairs, nums(w)); !slices.Equal(l, want) {
			t.Errorf("Shift(%d, %v, %v) = %v, not %v", n, pairs, nums(w), l, want)
		}
	})
}

// long returns weights of nine horses: two and two have 1/4 together, with denominators of 12 digits that have little in common.
func long() []*big.Rat {
	var w []*big.Rat
	for i, part := range []int64{249999999997, 249999999989, 249999999991, 249999999983} {
		x := big.NewRat(part/3+int64(i), 4*part)
		w = append(w, x, new(big.Rat).Sub(big.NewRat(1, 4), x))
	}
	return append(w, new(big.Rat))
}

func TestWorthOfOne(t *testing.T) {
	for n := 1; n <= api.MaxHerd; n++ {
		for i := range n {
			w := slices.Repeat([]api.Num{"0"}, n)
			w[i] = "1"
			all := turanOf(t, n, n)
			if x := worthOf(t, n, all, w); x != "0" {
				t.Errorf("Worth(%v) = %s", w, x)
			}
			if l := shiftOf(t, n, nil, w); !slices.Equal(l, w) {
				t.Errorf("Shift(%v) = %v", w, l)
			}
		}
	}
}

func TestGreatest(t *testing.T) {
	each(func(n int, pairs []api.Pair) {
		group := tableOf(n, pairs).first()
		w := slices.Repeat([]*big.Rat{new(big.Rat)}, n)
		for _, i := range group {
			w[i] = big.NewRat(1, int64(len(group)))
		}
		want := num(big.NewRat(int64(len(group)-1), int64(2*len(group))))
		if x, l := greatestOf(t, n, pairs); x != want || !slices.Equal(l, nums(w)) {
			t.Errorf("Greatest(%d, %v) = %s, %v, not %s, %v", n, pairs, x, l, want, nums(w))
		}
	})
}

func TestTriples(t *testing.T) {
	each(func(n int, pairs []api.Pair) {
		table := tableOf(n, pairs)
		along, apart := triplesOf(t, n, pairs)
		if along != table.triples(true) || apart != table.triples(false) {
			t.Errorf("Triples(%d, %v) = %d, %d, not %d, %d", n, pairs, along, apart, table.triples(true), table.triples(false))
		}
	})
}

func TestFree(t *testing.T) {
	each(func(n int, pairs []api.Pair) {
		for r := 1; r <= api.MaxHerd; r++ {
			want := tableOf(n, pairs).free(r)
			if l := freeOf(t, n, r, pairs); !slices.Equal(l, want) {
				t.Errorf("Free(%d, %d, %v) = %v, not %v", n, r, pairs, l, want)
			}
		}
	})
	if l := freeOf(t, 4, 2, turan(4, 4).pairs()); !slices.Equal(l, []api.Pair{{A: 0, B: 1}, {A: 0, B: 2}, {A: 0, B: 3}}) {
		t.Errorf("Free = %v", l)
	}
}

// errorsOf returns the errors of all functions that are given a herd.
func errorsOf(t *testing.T, n int, pairs []api.Pair, weights []api.Num) map[string]api.Errno {
	t.Helper()
	group, e1 := herd.Group(n, pairs)
	groups, e2 := herd.Groups(n, pairs)
	colors, e3 := herd.Colors(n, pairs)
	worth, e4 := herd.Worth(n, pairs, weights)
	shifted, e5 := herd.Shift(n, pairs, weights)
	most, best, e6 := herd.Greatest(n, pairs)
	along, apart, e7 := herd.Triples(n, pairs)
	free, e8 := herd.Free(n, 2, pairs)
	all := map[string]api.Errno{"Group": e1, "Groups": e2, "Colors": e3, "Worth": e4, "Shift": e5, "Greatest": e6, "Triples": e7, "Free": e8}
	results := map[string]bool{
		"Group": len(group) > 0, "Groups": len(groups) > 0, "Colors": len(colors) > 0, "Worth": worth != "", "Shift": len(shifted) > 0,
		"Greatest": most != "" || len(best) > 0, "Triples": along != 0 || apart != 0, "Free": len(free) > 0,
	}
	for name, has := range results {
		if has && all[name] != api.OK {
			t.Errorf("%s(%d, %v, %v) has a result with error %d", name, n, pairs, weights, all[name])
		}
	}
	return all
}

func TestHerdOutOfRange(t *testing.T) {
	many := slices.Repeat(row(), 51)
	cases := []struct {
		n     int
		pairs []api.Pair
	}{
		{0, nil}, {-1, nil}, {10, nil}, {math.MinInt, nil}, {math.MaxInt, nil}, {0, row()}, {10, row()},
		{2, row()}, {1, []api.Pair{{A: 0, B: 1}}}, {3, []api.Pair{{A: 1, B: 1}}}, {3, []api.Pair{{A: 0, B: 0}}}, {3, []api.Pair{{}}},
		{3, []api.Pair{{A: 0, B: 3}}}, {3, []api.Pair{{A: 3, B: 0}}}, {3, []api.Pair{{A: -1, B: 0}}}, {3, []api.Pair{{A: 0, B: -1}}},
		{3, []api.Pair{{A: 0, B: 1}, {A: 1, B: 2}, {A: 2, B: 2}}}, {9, []api.Pair{{A: 9, B: 8}}}, {3, []api.Pair{{A: 3, B: 3}}},
		{3, []api.Pair{{A: math.MinInt, B: math.MaxInt}}}, {3, []api.Pair{{A: 0, B: math.MaxInt}}}, {3, []api.Pair{{A: math.MinInt, B: 0}}},
		{3, []api.Pair{{A: 0, B: 64}}}, {3, []api.Pair{{A: 65, B: 0}}}, {3, many}, {3, many[:101]},
	}
	for _, c := range cases {
		for _, weights := range [][]api.Num{nil, {"1", "0", "0"}, {"1"}, {"x"}} {
			for name, e := range errorsOf(t, c.n, c.pairs, weights) {
				if e != api.ErrArg {
					t.Errorf("%s(%d, %v): error %d", name, c.n, c.pairs, e)
				}
			}
		}
	}
	for name, e := range errorsOf(t, 3, many[:100], []api.Num{"1/2", "1/4", "1/4"}) {
		if e != api.OK {
			t.Errorf("%s of 100 pairs: error %d", name, e)
		}
	}
}

func TestNumbersOutOfRange(t *testing.T) {
	for _, x := range []int{0, -1, 10, 1000, math.MinInt, math.MaxInt} {
		for _, y := range []int{1, 9, x} {
			for _, c := range [][2]int{{x, y}, {y, x}} {
				if l, e := herd.Turan(c[0], c[1]); len(l) > 0 || e != api.ErrArg {
					t.Errorf("Turan(%d, %d) = %v, %d", c[0], c[1], l, e)
				}
			}
		}
		for _, pairs := range [][]api.Pair{nil, row(), {{A: 1, B: 1}}} {
			if l, e := herd.Free(3, x, pairs); len(l) > 0 || e != api.ErrArg {
				t.Errorf("Free(3, %d, %v) = %v, %d", x, pairs, l, e)
			}
		}
	}
	for _, x := range []int{0, -1, 1001, math.MinInt, math.MaxInt} {
		for _, y := range []int{1, 9, 1000, x} {
			for _, c := range [][2]int{{x, y}, {y, x}} {
				if most, e := herd.Most(c[0], c[1]); most != 0 || e != api.ErrArg {
					t.Errorf("Most(%d, %d) = %d, %d", c[0], c[1], most, e)
				}
			}
		}
	}
}

func TestMalformedWeights(t *testing.T) {
	nines := api.Num(strings.Repeat("9", 12))
	good := [][]api.Num{{"1", "0"}, {"1/2", "1/2"}, {"1/" + nines, nines[:11] + "8/" + nines}, {nines[:10] + "89/" + nines, "10/" + nines}}
	for _, w := range good {
		for name, e := range errorsOf(t, 2, nil, w) {
			if e != api.OK {
				t.Errorf("%s(%v): error %d", name, w, e)
			}
		}
	}
	bad := [][]api.Num{
		nil, {}, {"1"}, {"1", "0", "0"}, {"1/2", "1/4", "1/4"}, {"", "1"}, {"1", ""},
		{"1/2", "1/3"}, {"1", "1"}, {"0", "0"}, {"1/2", "2/3"}, {"2", "0"}, {"1/2", "500000000001/999999999999"},
		{"-1/2", "3/2"}, {"2", "-1"}, {"-0", "1"}, {"+1", "0"}, {"01", "0"}, {"1", "00"}, {"1/1", "0"}, {"1", "0/1"}, {"1", "0/2"}, {"2/2", "0"}, {"1/02", "1/2"},
		{"2/4", "1/2"}, {"1/2", "3/6"}, {"1/0", "0"}, {"1", "0/0"}, {"1/", "0"}, {"/1", "1"}, {"/", "1"}, {"1/2/1", "1/2"}, {"1/2/", "1/2"}, {"1/+2", "1/2"}, {"-1/-2", "1/2"}, {"1/-2", "3/2"},
		{" 1", "0"}, {"1 ", "0"}, {"1\n", "0"}, {"1\x00", "0"}, {"0.5", "0.5"}, {"1e0", "0"}, {"0x1", "0"}, {"\u0661", "0"}, {"1_0/20", "1/2"}, {"\xff", "1"},
		{"1/1000000000001", "1000000000000/1000000000001"}, {"1/1000000000000", "999999999999/1000000000000"}, {"1", "0000000000000"},
		{"1", "1/18446744073709551617"}, {"18446744073709551617", "0"}, {api.Num(strings.Repeat("1", 5000)), "0"}, {"1/" + api.Num(strings.Repeat("1", 4000)), "1"},
	}
	for _, w := range bad {
		for name, e := range errorsOf(t, 2, []api.Pair{{A: 0, B: 1}}, w) {
			want := api.OK
			if name == "Worth" || name == "Shift" {
				want = api.ErrForm
			}
			if e != want {
				t.Errorf("%s(%.99q): error %d", name, w, e)
			}
		}
	}
}
