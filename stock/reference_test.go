package stock_test

import (
	"math/big"
	"slices"
	"strconv"
	"strings"
	"sync"
	"testing"

	"pritchel/api"
	"pritchel/stock"
)

// This file works by the definitions of the chapter, as slowly and plainly as they are written, and makes cases.

const lowest = -2 * api.MaxLevel

// key is a level in a period.
type key struct {
	period, level int
}

// table is a shop with its costs by definition, which are kept as they become known.
type table struct {
	api.Shop
	chances []*big.Rat
	rests   map[key]*big.Rat
	leasts  map[key]*big.Rat
	orders  map[key]int
}

func tableOf(s api.Shop) *table {
	c := &table{Shop: s, rests: map[key]*big.Rat{}, leasts: map[key]*big.Rat{}, orders: map[key]int{}}
	for _, x := range s.Need {
		r, _ := new(big.Rat).SetString(string(x))
		c.chances = append(c.chances, r)
	}
	return c
}

func whole(x int) *big.Rat {
	return big.NewRat(int64(x), 1)
}

func (c *table) ordering(x, y int) *big.Rat {
	if y == x {
		return whole(0)
	}
	return whole(c.Setup + c.Unit*(y-x))
}

func (c *table) keeping(level int) *big.Rat {
	if level > 0 {
		return whole(c.Hold * level)
	}
	return whole(c.Lack * -level)
}

// mean returns the mean of a number that depends on the level at the end of a period.
func (c *table) mean(y int, of func(level int) *big.Rat) *big.Rat {
	sum := whole(0)
	for j, p := range c.chances {
		sum.Add(sum, new(big.Rat).Mul(p, of(y-j)))
	}
	return sum
}

// rest returns the least mean cost from a period on, when one has ordered.
func (c *table) rest(period, y int) *big.Rat {
	k := key{period, y}
	if c.rests[k] == nil {
		later := c.mean(y, func(level int) *big.Rat { return c.least(period+1, level) })
		c.rests[k] = later.Add(later, c.mean(y, c.keeping))
	}
	return c.rests[k]
}

// least tries all levels up to which one may order.
func (c *table) least(period, x int) *big.Rat {
	k := key{period, x}
	if period == c.Periods {
		return whole(0)
	}
	if c.leasts[k] == nil {
		for y := x; y <= api.MaxLevel; y++ {
			cost := c.ordering(x, y)
			cost.Add(cost, c.rest(period, y))
			if c.leasts[k] == nil || cost.Cmp(c.leasts[k]) < 0 {
				c.leasts[k], c.orders[k] = cost, y
			}
		}
	}
	return c.leasts[k]
}

func (c *table) order(period, x int) int {
	c.least(period, x)
	return c.orders[key{period, x}]
}

func (c *table) value(period, y int) *big.Rat {
	return new(big.Rat).Add(whole(c.Unit*y), c.rest(period, y))
}

func (c *table) levels(period int) api.Level {
	l := api.Level{High: lowest}
	for y := lowest; y <= api.MaxLevel; y++ {
		if c.value(period, y).Cmp(c.value(period, l.High)) < 0 {
			l.High = y
		}
	}
	limit := new(big.Rat).Add(whole(c.Setup), c.value(period, l.High))
	for l.Low = lowest; c.value(period, l.Low).Cmp(limit) > 0; {
		l.Low++
	}
	return l
}

// follow goes through all that may be needed, one period after the other.
func (c *table) follow(levels []api.Level, level int) *big.Rat {
	if len(levels) == 0 {
		return whole(0)
	}
	y := level
	if level < levels[0].Low {
		y = levels[0].High
	}
	sum := c.mean(y, func(level int) *big.Rat {
		return new(big.Rat).Add(c.keeping(level), c.follow(levels[1:], level))
	})
	return sum.Add(sum, c.ordering(level, y))
}

// bends reports whether three levels bend too much, as the chapter has it.
func (c *table) bends(period, low, y, high int) bool {
	slope := new(big.Rat).Sub(c.value(period, y), c.value(period, low))
	slope.Mul(slope, big.NewRat(int64(high-y), int64(y-low)))
	return new(big.Rat).Add(c.value(period, high), whole(c.Setup)).Cmp(slope.Add(slope, c.value(period, y))) < 0
}

func num(x *big.Rat) api.Num {
	return api.Num(x.RatString())
}

func ratOf(t *testing.T, x api.Num) *big.Rat {
	t.Helper()
	r, is := new(big.Rat).SetString(string(x))
	if !is || num(r) != x {
		t.Fatalf("%q is no Num", x)
	}
	return r
}

// The following functions fail the test if an error is returned.

func costOf(t *testing.T, s api.Shop, period, level int) *big.Rat {
	t.Helper()
	x, e := stock.Cost(s, period, level)
	if e != api.OK {
		t.Fatalf("Cost(%v, %d, %d): error %d", s, period, level, e)
	}
	return ratOf(t, x)
}

func valueOf(t *testing.T, s api.Shop, period, level int) *big.Rat {
	t.Helper()
	x, e := stock.Value(s, period, level)
	if e != api.OK {
		t.Fatalf("Value(%v, %d, %d): error %d", s, period, level, e)
	}
	return ratOf(t, x)
}

func orderOf(t *testing.T, s api.Shop, period, level int) int {
	t.Helper()
	y, e := stock.Order(s, period, level)
	if e != api.OK {
		t.Fatalf("Order(%v, %d, %d): error %d", s, period, level, e)
	}
	return y
}

func levelsOf(t *testing.T, s api.Shop) []api.Level {
	t.Helper()
	l, e := stock.Levels(s)
	if e != api.OK {
		t.Fatalf("Levels(%v): error %d", s, e)
	}
	return l
}

func followOf(t *testing.T, s api.Shop, levels []api.Level, level int) *big.Rat {
	t.Helper()
	x, e := stock.Follow(s, levels, level)
	if e != api.OK {
		t.Fatalf("Follow(%v, %v, %d): error %d", s, levels, level, e)
	}
	return ratOf(t, x)
}

func meanOf(t *testing.T, s api.Shop) *big.Rat {
	t.Helper()
	x, e := stock.Mean(s)
	if e != api.OK {
		t.Fatalf("Mean(%v): error %d", s, e)
	}
	return ratOf(t, x)
}

// shopOf returns a shop of which the chances are written with blanks between them.
func shopOf(periods, setup, unit, hold, lack int, need string) api.Shop {
	s := api.Shop{Periods: periods, Setup: setup, Unit: unit, Hold: hold, Lack: lack}
	for _, x := range strings.Fields(need) {
		s.Need = append(s.Need, api.Num(x))
	}
	return s
}

// long are chances of which the common denominator is 24775200.
const long = "52/775 19/992 97/864 22/999 721/925"

// sequence is numbers that look as if they had no order, and are always the same.
type sequence uint64

func (r *sequence) below(n int) int {
	*r = *r*6364136223846793005 + 1442695040888963407
	return int(*r >> 33 % sequence(n))
}

// need returns chances that are multiples of one that is 1/bottom.
func (r *sequence) need(count, bottom int) string {
	left := bottom
	var list []string
	for i := range count {
		top := left
		if i < count-1 {
			top = r.below(left + 1)
		}
		left -= top
		list = append(list, big.NewRat(int64(top), int64(bottom)).RatString())
	}
	for i := range list {
		j := r.below(i + 1)
		list[i], list[j] = list[j], list[i]
	}
	return strings.Join(list, " ")
}

// shop returns one of which each cost is at most that.
func (r *sequence) shop(periods, cost int) api.Shop {
	s := shopOf(periods, r.below(cost+1), r.below(cost+1), r.below(cost+1), r.below(cost+1), r.need(1+r.below(5), 1+r.below(999)))
	if s.Hold+s.Lack == 0 {
		s.Lack = 1 + r.below(cost)
	}
	return s
}

func (r *sequence) levels(periods int) []api.Level {
	var list []api.Level
	for range periods {
		x, y := lowest+r.below(api.MaxLevel-lowest+1), lowest+r.below(api.MaxLevel-lowest+1)
		if r.below(2) > 0 {
			x, y = r.below(9)-4, r.below(9)-4
		}
		list = append(list, api.Level{Low: min(x, y), High: max(x, y)})
	}
	return list
}

// some returns a few levels from one on: the first and the last one, some near 0, and any other one.
func (r *sequence) some(first int) []int {
	return []int{first, -1 - r.below(4), r.below(4), 4 + r.below(8), first + r.below(api.MaxLevel-first), api.MaxLevel}
}

// sure returns chances of which just n is needed for sure.
func sure(n int) string {
	return strings.Join(append(slices.Repeat([]string{"0"}, n), "1"), " ")
}

// extremes are shops at the limits of what they may be, and shops that never order, or always do.
func extremes() []api.Shop {
	var list []api.Shop
	for _, c := range []struct {
		periods int
		need    string
	}{
		{api.MaxPeriods, long}, {3, sure(0)}, {api.MaxPeriods, sure(4)}, {2, "0 0 1 0 0"}, {5, "1/5 1/5 1/5 1/5 1/5"},
		{4, "1/999 998/999"}, {1, "998/999 0 0 0 1/999"}, {3, "1/997 2/997 3/997 4/997 987/997"},
	} {
		for _, costs := range [][4]int{
			{20, 20, 20, 20}, {0, 0, 0, 1}, {0, 0, 1, 0}, {20, 0, 0, 20}, {20, 0, 20, 0}, {0, 20, 0, 1}, {0, 20, 1, 20}, {20, 1, 0, 1},
			{3, 20, 0, 7}, {20, 1, 1, 20}, {1, 0, 1, 20}, {20, 20, 0, 20},
		} {
			list = append(list, shopOf(c.periods, costs[0], costs[1], costs[2], costs[3], c.need))
		}
	}
	return list
}

// tables are shops of all kinds.
var tables = sync.OnceValue(func() []*table {
	shops := extremes()
	for _, need := range []string{"1/2 1/2", "1/4 1/2 1/4", "2/3 0 1/3"} {
		for n := range 3 * 3 * 3 * 3 {
			if n >= 3 {
				shops = append(shops, shopOf(1+n%2, n%3, n/27, n/9%3, n/3%3, need))
			}
		}
	}
	r := sequence(1)
	for periods := 1; periods <= api.MaxPeriods; periods++ {
		for _, cost := range []int{1, 2, 5, 10, api.MaxCost} {
			shops = append(shops, r.shop(periods, cost), r.shop(periods, cost))
		}
	}
	var list []*table
	for _, s := range shops {
		if s.Hold+s.Lack > 0 {
			list = append(list, tableOf(s))
		}
	}
	return list
})

// text returns arguments as they are in memory.
func text(s api.Shop, levels []api.Level) string {
	out := ""
	for _, x := range s.Need {
		out += " " + string(x)
	}
	for _, l := range levels {
		out += " " + strconv.Itoa(l.Low) + "-" + strconv.Itoa(l.High)
	}
	return out
}
