package stock_test

import (
	"math/big"
	"slices"
	"testing"

	"pritchel/api"
	"pritchel/stock"
)

// allLevels gives the levels that a shop may begin with.
func allLevels(yield func(level int) bool) {
	for level := -api.MaxLevel; level <= api.MaxLevel; level++ {
		if !yield(level) {
			return
		}
	}
}

// S1
func TestScarf(t *testing.T) {
	for i, c := range tables() {
		l := levelsOf(t, c.Shop)
		for level := range allLevels {
			if (i+level)%7 > 0 {
				continue
			}
			if x, y := followOf(t, c.Shop, l, level), costOf(t, c.Shop, 0, level); x.Cmp(y) != 0 {
				t.Errorf("Follow(%v, %v, %d) = %v, Cost %v", c.Shop, l, level, x, y)
			}
		}
	}
	s := shopOf(api.MaxPeriods, 13, 2, 1, 7, "1/8 1/4 1/4 1/4 1/8")
	l := levelsOf(t, s)
	for level := range allLevels {
		if x, y := followOf(t, s, l, level), costOf(t, s, 0, level); x.Cmp(y) != 0 {
			t.Errorf("Follow(%v, %v, %d) = %v, Cost %v", s, l, level, x, y)
		}
	}
}

// near returns levels some of which differ from others a little.
func (r *sequence) near(levels []api.Level) []api.Level {
	list := slices.Clone(levels)
	for i := range list {
		low := min(max(list[i].Low+r.below(5)-2, lowest), api.MaxLevel)
		list[i] = api.Level{Low: low, High: min(max(list[i].High+r.below(5)-2, low), api.MaxLevel)}
	}
	return list
}

// S2
func TestNoLevelsCostLess(t *testing.T) {
	r := sequence(3)
	dearer := 0
	for _, c := range tables() {
		best := levelsOf(t, c.Shop)
		for i := range 12 {
			levels := r.levels(c.Periods)
			if i%2 > 0 {
				levels = r.near(best)
			}
			level := r.below(2*api.MaxLevel+1) - api.MaxLevel
			x, y := followOf(t, c.Shop, levels, level), costOf(t, c.Shop, 0, level)
			if x.Cmp(y) < 0 {
				t.Errorf("Follow(%v, %v, %d) = %v, Cost %v", c.Shop, levels, level, x, y)
			}
			dearer += x.Cmp(y)
		}
	}
	if dearer < 100 {
		t.Errorf("only %d levels cost more than the best", dearer)
	}
}

// S2
func TestOrderIsHigh(t *testing.T) {
	ordered := 0
	for _, c := range tables() {
		for period, l := range levelsOf(t, c.Shop) {
			for _, level := range []int{-api.MaxLevel, l.Low - 1, l.Low, l.High - 1, l.High, l.High + 1} {
				if level < -api.MaxLevel || level > api.MaxLevel {
					continue
				}
				want := level
				if level < l.Low {
					want = l.High
					ordered++
				}
				if y := orderOf(t, c.Shop, period, level); y != want {
					t.Errorf("Order(%v, %d, %d) = %d, Levels %v", c.Shop, period, level, y, l)
				}
			}
		}
	}
	if ordered < 100 {
		t.Errorf("only %d levels are too low", ordered)
	}
}

// S3
func TestBends(t *testing.T) {
	for _, c := range tables() {
		for period := range c.Periods {
			if l, e := stock.Bends(c.Shop, period); len(l) > 0 || e != api.ErrNone {
				t.Errorf("Bends(%v, %d) = %v, %d", c.Shop, period, l, e)
			}
		}
	}
	r := sequence(4)
	for _, c := range tables() {
		for range 50 {
			l := []int{r.below(25) - 12, r.below(25) - 12, r.below(25) - 12}
			slices.Sort(l)
			if period := r.below(c.Periods); l[0] < l[1] && l[1] < l[2] && c.bends(period, l[0], l[1], l[2]) {
				t.Errorf("%v bends in the period %d at %v", c.Shop, period, l)
			}
		}
	}
}

// S4
func TestMore(t *testing.T) {
	r := sequence(5)
	more := 0
	for _, c := range tables() {
		for i := range 3 {
			s := c.Shop
			cost := []*int{&s.Setup, &s.Hold, &s.Lack}[i]
			if *cost == api.MaxCost {
				continue
			}
			*cost += 1 + r.below(api.MaxCost-*cost)
			for _, level := range []int{-api.MaxLevel, 0, 9} {
				x, y := costOf(t, c.Shop, 0, level), costOf(t, s, 0, level)
				if x.Cmp(y) > 0 {
					t.Errorf("Cost(%v, 0, %d) = %v, but %v of %v", c.Shop, level, x, y, s)
				}
				more += y.Cmp(x)
			}
		}
	}
	if more < 100 {
		t.Errorf("only %d costs became greater", more)
	}
}

// S4
func TestNoSetup(t *testing.T) {
	for _, c := range tables() {
		s := c.Shop
		s.Setup = 0
		for period, l := range levelsOf(t, s) {
			if l.Low != l.High {
				t.Errorf("Levels(%v)[%d] = %v", s, period, l)
			}
		}
	}
}

// S5
func TestSized(t *testing.T) {
	for _, c := range tables() {
		for k := 2; k*max(c.Setup, c.Unit, c.Hold, c.Lack) <= api.MaxCost; k++ {
			s := c.Shop
			s.Setup, s.Unit, s.Hold, s.Lack = k*s.Setup, k*s.Unit, k*s.Hold, k*s.Lack
			for _, level := range []int{-api.MaxLevel, -1, 0, 4, api.MaxLevel} {
				x, y := costOf(t, c.Shop, 0, level), costOf(t, s, 0, level)
				if y.Cmp(x.Mul(x, whole(k))) != 0 {
					t.Errorf("Cost(%v, 0, %d) = %v, not %v", s, level, y, x)
				}
			}
			if k > 3 {
				break
			}
		}
	}
}

// S6
func TestCheap(t *testing.T) {
	r := sequence(6)
	for _, c := range tables() {
		for range 12 {
			x, y := r.below(2*api.MaxLevel+1)-api.MaxLevel, r.below(2*api.MaxLevel+1)-api.MaxLevel
			low, high, period := min(x, y), max(x, y), r.below(c.Periods)
			limit := new(big.Rat).Add(whole(c.Setup+c.Unit*(high-low)), costOf(t, c.Shop, period, high))
			if cost := costOf(t, c.Shop, period, low); cost.Cmp(limit) > 0 {
				t.Errorf("Cost(%v, %d, %d) = %v, but %v by ordering up to %d", c.Shop, period, low, cost, limit, high)
			}
		}
	}
}

// S7
func TestSure(t *testing.T) {
	for periods := 1; periods <= api.MaxPeriods; periods++ {
		for n := range api.MaxNeed + 1 {
			for _, costs := range [][2]int{{1, 0}, {0, 1}, {1, 1}, {api.MaxCost, 3}, {2, api.MaxCost}} {
				s := shopOf(periods, 0, 0, costs[0], costs[1], sure(n))
				if x := costOf(t, s, 0, 0); x.Sign() != 0 {
					t.Errorf("Cost(%v) = %v", s, x)
				}
				if costs[1] > 0 && costs[0] > 0 {
					if l := levelsOf(t, s); l[0] != (api.Level{Low: n, High: n}) {
						t.Errorf("Levels(%v) = %v", s, l)
					}
				}
			}
		}
	}
}

// every returns arguments of all functions, drawn from a sequence.
func (r *sequence) every() given {
	s := r.shop(1+r.below(api.MaxPeriods), api.MaxCost)
	return given{s, r.levels(s.Periods), r.below(s.Periods), r.below(2*api.MaxLevel+1) - api.MaxLevel}
}

// results returns all results.
func (g given) results(t *testing.T) string {
	t.Helper()
	cost, value, follow := costOf(t, g.s, g.period, g.level), valueOf(t, g.s, g.period, g.level), followOf(t, g.s, g.levels, g.level)
	numbers := api.Shop{Need: []api.Num{num(cost), num(value), num(follow), num(meanOf(t, g.s)), num(whole(orderOf(t, g.s, g.period, g.level)))}}
	return text(numbers, levelsOf(t, g.s))
}

// clone returns the same in new memory, in which more comes behind the end of everything.
func (g given) clone() (same, long given) {
	long = g
	long.s.Need, long.levels = append(slices.Clone(g.s.Need), "x"), append(slices.Clone(g.levels), api.Level{Low: 1})
	same = long
	same.s.Need, same.levels = long.s.Need[:len(g.s.Need)], long.levels[:len(g.levels)]
	return same, long
}

// R5 and R6: arguments stay as they are, also behind their ends, results depend on them alone, and what is done to a result is seen nowhere.
func TestArguments(t *testing.T) {
	r := sequence(7)
	for range 100 {
		g := r.every()
		want := g.results(t)
		same, long := g.clone()
		before := text(long.s, long.levels)
		if s := same.results(t); s != want {
			t.Fatalf("%v: %s, then %s", g, want, s)
		}
		l := levelsOf(t, same.s)
		clear(l[:cap(l)])
		if after := text(long.s, long.levels); after != before {
			t.Fatalf("arguments were changed from %s to %s", before, after)
		}
		if s := g.results(t); s != want {
			t.Fatalf("%v: %s, then %s", g, want, s)
		}
	}
}

// R4
func TestNilAndEmpty(t *testing.T) {
	for _, need := range [][]api.Num{nil, {}} {
		g := good()
		g.s.Need = need
		check(t, g, "", api.ErrArg)
	}
	for _, levels := range [][]api.Level{nil, {}} {
		if x, e := stock.Follow(good().s, levels, 0); x != "" || e != api.ErrArg {
			t.Errorf("Follow = %s, %d", x, e)
		}
	}
}
