package stock_test

import (
	"math"
	"math/big"
	"slices"
	"strings"
	"testing"

	"pritchel/api"
	"pritchel/stock"
)

func TestExamples(t *testing.T) {
	s := shopOf(1, 1, 0, 1, 2, "1/2 1/2")
	for level, want := range map[int]api.Num{0: "1", 1: "1/2", -1: "3"} {
		if x, e := stock.Value(s, 0, level); x != want || e != api.OK {
			t.Errorf("Value(%d) = %s, %d", level, x, e)
		}
	}
	if l := levelsOf(t, s); !slices.Equal(l, []api.Level{{Low: 0, High: 1}}) {
		t.Errorf("Levels = %v", l)
	}
	for level, want := range map[int]api.Num{0: "1", -1: "3/2"} {
		if x, e := stock.Cost(s, 0, level); x != want || e != api.OK {
			t.Errorf("Cost(%d) = %s, %d", level, x, e)
		}
	}
	if x, y := orderOf(t, s, 0, 0), orderOf(t, s, 0, -1); x != 0 || y != 1 {
		t.Errorf("Order = %d, %d", x, y)
	}
	s.Setup = 0
	if l := levelsOf(t, s); !slices.Equal(l, []api.Level{{Low: 1, High: 1}}) {
		t.Errorf("Levels = %v", l)
	}
	if x, e := stock.Cost(s, 0, 0); x != "1/2" || e != api.OK {
		t.Errorf("Cost = %s, %d", x, e)
	}
	if x, e := stock.Mean(shopOf(1, 0, 0, 0, 1, "1/4 1/2 1/4")); x != "1" || e != api.OK {
		t.Errorf("Mean = %s, %d", x, e)
	}
}

func TestCost(t *testing.T) {
	r := sequence(8)
	for _, c := range tables() {
		for period := range c.Periods + 1 {
			for _, level := range r.some(-api.MaxLevel) {
				if x, want := costOf(t, c.Shop, period, level), c.least(period, level); x.Cmp(want) != 0 {
					t.Errorf("Cost(%v, %d, %d) = %v, not %v", c.Shop, period, level, x, want)
				}
			}
		}
	}
}

func TestValue(t *testing.T) {
	r := sequence(9)
	for _, c := range tables() {
		for period := range c.Periods {
			for _, level := range r.some(lowest) {
				if x, want := valueOf(t, c.Shop, period, level), c.value(period, level); x.Cmp(want) != 0 {
					t.Errorf("Value(%v, %d, %d) = %v, not %v", c.Shop, period, level, x, want)
				}
			}
		}
	}
}

func TestOrder(t *testing.T) {
	r := sequence(10)
	for _, c := range tables() {
		for period := range c.Periods {
			for _, level := range r.some(-api.MaxLevel) {
				if y, want := orderOf(t, c.Shop, period, level), c.order(period, level); y != want {
					t.Errorf("Order(%v, %d, %d) = %d, not %d", c.Shop, period, level, y, want)
				}
			}
		}
	}
}

func TestLevels(t *testing.T) {
	for _, c := range tables() {
		l := levelsOf(t, c.Shop)
		if len(l) != c.Periods {
			t.Fatalf("Levels(%v) = %v", c.Shop, l)
		}
		for period := range l {
			if want := c.levels(period); l[period] != want {
				t.Errorf("Levels(%v)[%d] = %v, not %v", c.Shop, period, l[period], want)
			}
		}
	}
}

func TestFollow(t *testing.T) {
	r := sequence(2)
	for _, c := range tables() {
		if c.Periods > 4 {
			continue
		}
		for _, level := range []int{-api.MaxLevel, r.below(49) - api.MaxLevel, 0, api.MaxLevel} {
			levels := r.levels(c.Periods)
			if x, want := followOf(t, c.Shop, levels, level), c.follow(levels, level); x.Cmp(want) != 0 {
				t.Errorf("Follow(%v, %v, %d) = %v, not %v", c.Shop, levels, level, x, want)
			}
		}
	}
	c := tableOf(shopOf(api.MaxPeriods, 20, 20, 19, 20, long))
	for range 2 {
		levels := r.levels(c.Periods)
		if x, want := followOf(t, c.Shop, levels, 3), c.follow(levels, 3); x.Cmp(want) != 0 {
			t.Errorf("Follow(%v, %v) = %v, not %v", c.Shop, levels, x, want)
		}
	}
}

// One orders below the one level alone, up to the other one.
func TestFollowAtTheLevels(t *testing.T) {
	s := shopOf(1, 7, 2, 1, 3, "1")
	low := api.Level{Low: -2, High: 5}
	for level, want := range map[int]string{-3: "28", -2: "6", -1: "3", 4: "4", 5: "5", 6: "6", -24: "70", 24: "24"} {
		if x := followOf(t, s, []api.Level{low}, level); num(x) != api.Num(want) {
			t.Errorf("Follow(%d) = %v, not %s", level, x, want)
		}
	}
	for _, c := range []struct {
		low, high, level int
		want             string
	}{
		{lowest, lowest, -24, "72"}, // nothing is ordered
		{lowest, 24, -24, "72"},
		{24, 24, 24, "24"},
		{24, 24, 23, "33"}, // 7 + 2 + 24
		{-24, 24, -24, "72"},
		{-23, 24, -24, "127"}, // 7 + 96 + 24
		{-23, -23, -24, "78"}, // 7 + 2 + 69
	} {
		if x := followOf(t, s, []api.Level{{Low: c.low, High: c.high}}, c.level); num(x) != api.Num(c.want) {
			t.Errorf("Follow(%v) = %v", c, x)
		}
	}
}

// The level may fall further than where it may begin.
func TestFallen(t *testing.T) {
	s := shopOf(api.MaxPeriods, 20, 0, 0, 20, sure(4))
	levels := slices.Repeat([]api.Level{{Low: lowest, High: lowest}}, api.MaxPeriods)
	if x := followOf(t, s, levels, -api.MaxLevel); num(x) != "4560" { // 20 times 28, 32 .. 48
		t.Errorf("Follow = %v", x)
	}
	s = shopOf(api.MaxPeriods, 20, 20, 0, 1, sure(4)) // to order costs more than to owe
	if x := costOf(t, s, 0, -api.MaxLevel); num(x) != "228" {
		t.Errorf("Cost = %v", x)
	}
	if x := valueOf(t, s, 0, lowest); num(x) != "-588" { // 52, 56 .. 72, and 20 times -48
		t.Errorf("Value = %v", x)
	}
	if l := levelsOf(t, s); l[5] != (api.Level{Low: lowest, High: lowest}) {
		t.Errorf("Levels = %v", l)
	}
}

// The results may have more digits than 64 bits hold.
func TestExact(t *testing.T) {
	for _, c := range []struct {
		s     api.Shop
		level int
	}{
		{shopOf(api.MaxPeriods, 20, 1, 1, 19, long), 7},
		{shopOf(api.MaxPeriods, 20, 20, 19, 17, long), 11},
	} {
		ref := tableOf(c.s)
		want := num(ref.least(0, c.level))
		if x := costOf(t, c.s, 0, c.level); num(x) != want || len(want) < 75 {
			t.Errorf("Cost(%v, 0, %d) = %v, not %s", c.s, c.level, x, want)
		}
		for level := lowest; level <= api.MaxLevel; level++ {
			if x, want := valueOf(t, c.s, 0, level), ref.value(0, level); x.Cmp(want) != 0 {
				t.Errorf("Value(%v, 0, %d) = %v, not %v", c.s, level, x, want)
			}
		}
	}
	x, e := stock.Cost(shopOf(api.MaxPeriods, 20, 1, 1, 19, long), 0, 7)
	if e != api.OK || x != "10908934423560641641050294644343065917/144049196248742151589478400000000000" {
		t.Errorf("Cost = %s, %d", x, e)
	}
}

func TestMean(t *testing.T) {
	for _, c := range tables() {
		want := whole(0)
		for j, p := range c.chances {
			want.Add(want, new(big.Rat).Mul(whole(j), p))
		}
		if x := meanOf(t, c.Shop); x.Cmp(want) != 0 {
			t.Errorf("Mean(%v) = %v, not %v", c.Need, x, want)
		}
	}
	for need, want := range map[string]api.Num{"1": "0", "0 1": "1", "0 0 0 0 1": "4", "1/2 1/2": "1/2", "1/3 1/3 1/3": "1", "1 0 0 0 0": "0", "1/999 0 0 0 998/999": "3992/999", "1/2 0 1/4 1/4": "5/4"} {
		if x := meanOf(t, shopOf(1, 0, 0, 1, 0, need)); num(x) != want {
			t.Errorf("Mean(%s) = %v, not %s", need, x, want)
		}
	}
}

// given is arguments of all functions.
type given struct {
	s             api.Shop
	levels        []api.Level
	period, level int
}

// errors returns the errors of all functions but those with the names, and reports whether all else is zero.
func (g given) errors(but string) (map[string]api.Errno, bool) {
	cost, e1 := stock.Cost(g.s, g.period, g.level)
	value, e2 := stock.Value(g.s, g.period, g.level)
	order, e3 := stock.Order(g.s, g.period, g.level)
	levels, e4 := stock.Levels(g.s)
	follow, e5 := stock.Follow(g.s, g.levels, g.level)
	mean, e6 := stock.Mean(g.s)
	bends, e7 := stock.Bends(g.s, g.period)
	all := map[string]api.Errno{"Cost": e1, "Value": e2, "Order": e3, "Levels": e4, "Follow": e5, "Mean": e6, "Bends": e7}
	zero := map[string]bool{"Cost": cost == "", "Value": value == "", "Order": order == 0, "Levels": len(levels) == 0, "Follow": follow == "", "Mean": mean == "", "Bends": len(bends) == 0}
	are := true
	for _, name := range strings.Fields(but) {
		delete(all, name)
		delete(zero, name)
	}
	for _, is := range zero {
		are = are && is
	}
	return all, are
}

func check(t *testing.T, g given, but string, want api.Errno) {
	t.Helper()
	all, zero := g.errors(but)
	for name, e := range all {
		if e != want {
			t.Errorf("%s(%v): error %d, not %d", name, g, e, want)
		}
	}
	if !zero {
		t.Errorf("%v: a result beside an error", g)
	}
}

func good() given {
	return given{s: shopOf(2, 1, 1, 1, 1, "1/2 1/2"), levels: make([]api.Level, 2)}
}

// fine checks that no function returns an error; Bends returns ErrNone.
func fine(t *testing.T, g given) {
	t.Helper()
	all, _ := g.errors("Bends")
	for name, e := range all {
		if e != api.OK {
			t.Errorf("%s(%v): error %d", name, g, e)
		}
	}
	if l, e := stock.Bends(g.s, g.period); len(l) > 0 || e != api.ErrNone {
		t.Errorf("Bends(%v) = %v, %d", g, l, e)
	}
}

func TestGood(t *testing.T) {
	fine(t, good())
	for _, level := range []int{-api.MaxLevel, api.MaxLevel} {
		for period := range 2 {
			g := good()
			g.period, g.level = period, level
			fine(t, g)
		}
	}
}

// nines returns a number of so many digits.
func nines(digits int) string {
	return strings.Repeat("9", digits)
}

// Whatever else is wrong, a Num that is not valid comes first.
func TestNumsThatAreNotValid(t *testing.T) {
	digits := api.MaxDigits
	seven := strings.Repeat("7", digits)
	for _, x := range []string{
		"", "-", "/", "-0", "00", "01", "-01", "+1", " 1", "1 ", "1.0", "1e0", "a", "0x1", "1_0", "--1", "1\n", "1\x00", "\xff", "½", "١",
		"1/", "/2", "1/0", "0/1", "0/2", "1/1", "2/1", "2/2", "2/4", "3/6", "500/1000", "-2/4", "-0/2", "1/-2", "1/02", "01/2", "1/+2", "1/2/3", "1//2", "1/2 ", "1/ 2", "1/2/",
		nines(digits + 1), "-" + nines(digits+1), "1/" + nines(digits+1), "1" + nines(digits) + "/2",
		seven + "/" + nines(digits), seven + "/" + seven, nines(digits) + "/3", "2/" + nines(digits-1) + "8", "0/" + nines(digits),
		"1" + strings.Repeat("0", digits-1) + "/2" + strings.Repeat("0", digits-1), "18446744073709551616/36893488147419103232",
	} {
		for _, need := range [][]api.Num{{api.Num(x)}, {"1/2", "1/2", api.Num(x)}, {api.Num(x), "1"}, {"1", "1", "1", "1", "1", "1", "1", api.Num(x)}, {"-1", "1000", api.Num(x)}} {
			g := good()
			g.s.Need = need
			check(t, g, "", api.ErrForm)
			bad := given{s: api.Shop{Periods: -1, Setup: -1, Need: need}, period: 9, level: 99, levels: []api.Level{{Low: 1}}}
			check(t, bad, "", api.ErrForm)
		}
	}
}

// A Num that is valid may be no chance.
func TestNumsThatAreNoChances(t *testing.T) {
	digits := api.MaxDigits
	for _, x := range []string{
		"-1", "2", "999", "-1/2", "3/2", "1000", "1/1000", "1000/3", "1000/1001", "999/1000", "-999/1000", "18446744073709551617", "1/18446744073709551617",
		nines(digits), "-" + nines(digits), "1/" + nines(digits), nines(digits) + "/2", strings.Repeat("7", digits-1) + "1/" + nines(digits), strings.Repeat("9", digits-1) + "8/" + nines(digits),
		nines(digits) + "/1" + strings.Repeat("0", digits-1), "1" + strings.Repeat("0", digits-1) + "/" + nines(digits), "18446744073709551616/36893488147419103233",
	} {
		for _, need := range [][]api.Num{{api.Num(x)}, {"0", api.Num(x)}, {api.Num(x), "1"}, {"1/2", "1/2", api.Num(x)}} {
			g := good()
			g.s.Need = need
			check(t, g, "", api.ErrArg)
		}
	}
}

// digits returns a number of so many digits.
func (r *sequence) digits(count int) *big.Int {
	s := []byte{byte('1' + r.below(9))}
	for len(s) < count {
		s = append(s, byte('0'+r.below(10)))
	}
	x, _ := new(big.Int).SetString(string(s), 10)
	return x
}

// Long numbers are valid in lowest terms alone, whatever divisor they have in common otherwise.
func TestLongNums(t *testing.T) {
	r := sequence(11)
	common := []*big.Int{big.NewInt(2), big.NewInt(3), big.NewInt(1_000_000_007), big.NewInt(0).Lsh(big.NewInt(1), 64), big.NewInt(0).Lsh(big.NewInt(1), 200), r.digits(30), r.digits(100)}
	g := good()
	for digits := 1; digits < 120; digits++ {
		x := new(big.Rat).SetFrac(r.digits(digits), r.digits(1+r.below(120)))
		g.s.Need = []api.Num{num(x), "1"}
		check(t, g, "", api.ErrArg)
		factor := common[digits%len(common)]
		top, bottom := new(big.Int).Mul(x.Num(), factor), new(big.Int).Mul(x.Denom(), factor)
		g.s.Need = []api.Num{api.Num(top.String() + "/" + bottom.String()), "1"}
		check(t, g, "", api.ErrForm)
	}
}

func TestNeedsThatAreOutOfRange(t *testing.T) {
	for _, need := range []string{
		"", "0", "0 0 0 0 0", "1/2", "1/2 1/3", "1/2 1/2 1/2", "1 1", "1 1 1 1 1", "2/3 2/3", "1/2 1/2 -1/2 1/2", "3/2 -1/2", "2 -1", "-1 2",
		"1 0 0 0 0 0", "0 0 0 0 0 1", "1/6 1/6 1/6 1/6 1/6 1/6", "1/997 995/997", "1/991 1/983 1/977 1/971 1/967", "998/999 996/997 990/991 982/983 976/977",
		"52/775 19/992 97/864 22/999 722/925", "52/775 19/992 97/864 23/999 721/925", "500/999 499/997",
		"1/1000 999/1000", "999/1000 1/1000", "1000/1001 1/1001", "1/2 499/1000 1/1000", "1/18446744073709551617 18446744073709551616/18446744073709551617",
	} {
		g := good()
		g.s.Need = shopOf(1, 0, 0, 0, 0, need).Need
		check(t, g, "", api.ErrArg)
	}
	for _, need := range []string{"1", "0 1", "1 0 0 0 0", "1/2 1/2", "998/999 1/999", "1/2 1/3 1/6", long} {
		g := good()
		g.s.Need = shopOf(1, 0, 0, 0, 0, need).Need
		fine(t, g)
	}
}

func TestShopsThatAreOutOfRange(t *testing.T) {
	for _, x := range []int{-1, api.MaxCost + 1, 1000, math.MaxInt, math.MinInt, math.MaxInt / 2} {
		for i := range 4 {
			costs := []int{1, 1, 1, 1}
			costs[i] = x
			g := good()
			g.s = shopOf(2, costs[0], costs[1], costs[2], costs[3], "1")
			check(t, g, "", api.ErrArg)
		}
	}
	for _, costs := range [][4]int{{1, 1, 0, 0}, {0, 0, 0, 0}, {20, 20, 0, 0}, {1, 1, 1, -1}, {1, 1, -1, 2}, {1, 1, -1, 1}, {1, 1, math.MaxInt, 1}, {1, 1, math.MinInt, math.MinInt}} {
		g := good()
		g.s = shopOf(2, costs[0], costs[1], costs[2], costs[3], "1")
		check(t, g, "", api.ErrArg)
	}
	for _, costs := range [][4]int{{0, 0, 1, 0}, {0, 0, 0, 1}, {20, 20, 20, 20}, {20, 0, 20, 0}, {0, 20, 0, 20}} {
		g := good()
		g.s = shopOf(2, costs[0], costs[1], costs[2], costs[3], "1")
		fine(t, g)
	}
}

func TestPeriodsThatAreOutOfRange(t *testing.T) {
	for _, periods := range []int{-1, 0, api.MaxPeriods + 1, 1000, math.MaxInt, math.MinInt} {
		g := good()
		g.s.Periods = periods
		check(t, g, "", api.ErrArg)
		g.levels = nil
		check(t, g, "", api.ErrArg)
		g.period = periods
		check(t, g, "", api.ErrArg)
	}
	for periods := 1; periods <= api.MaxPeriods; periods++ {
		g := good()
		g.s.Periods, g.levels, g.period = periods, make([]api.Level, periods), periods-1
		fine(t, g)
		for _, period := range []int{-1, periods + 1, math.MaxInt, math.MinInt} {
			g.period = period
			check(t, g, "Levels Follow Mean", api.ErrArg)
		}
		g.period = periods
		check(t, g, "Cost Levels Follow Mean", api.ErrArg)
		if x := costOf(t, g.s, periods, api.MaxLevel); num(x) != "0" {
			t.Errorf("Cost = %v", x)
		}
	}
}

func TestLevelsThatAreOutOfRange(t *testing.T) {
	for _, level := range []int{lowest - 1, api.MaxLevel + 1, math.MaxInt, math.MinInt} {
		for period := range 3 {
			g := good()
			g.level, g.period = level, period
			check(t, g, "Levels Mean Bends", api.ErrArg)
		}
	}
	for _, level := range []int{lowest, -api.MaxLevel - 1} {
		for period := range 2 {
			g := good()
			g.level, g.period = level, period
			check(t, g, "Levels Mean Bends Value", api.ErrArg)
			valueOf(t, g.s, period, level)
		}
		if x, e := stock.Cost(good().s, 2, level); x != "" || e != api.ErrArg {
			t.Errorf("Cost = %s, %d", x, e)
		}
	}
}

func TestFollowOutOfRange(t *testing.T) {
	s := good().s
	ok := api.Level{Low: -1, High: 1}
	for _, levels := range [][]api.Level{
		nil, {}, {ok}, {ok, ok, ok}, make([]api.Level, 1000),
		{ok, {Low: 1, High: 0}}, {{Low: 1, High: 0}, ok}, {ok, {Low: -1, High: -2}}, {ok, {Low: lowest - 1, High: 0}}, {{Low: 0, High: api.MaxLevel + 1}, ok},
		{ok, {Low: lowest - 1, High: lowest - 1}}, {ok, {Low: api.MaxLevel + 1, High: api.MaxLevel + 1}}, {ok, {Low: lowest, High: lowest - 1}},
		{{Low: math.MinInt, High: math.MaxInt}, ok}, {ok, {Low: math.MinInt}}, {ok, {High: math.MaxInt}}, {ok, {Low: math.MaxInt, High: math.MinInt}},
	} {
		if x, e := stock.Follow(s, levels, 0); x != "" || e != api.ErrArg {
			t.Errorf("Follow(%v) = %s, %d", levels, x, e)
		}
	}
	for _, l := range []api.Level{{Low: lowest, High: lowest}, {Low: lowest, High: api.MaxLevel}, {Low: api.MaxLevel, High: api.MaxLevel}, {}} {
		followOf(t, s, []api.Level{ok, l}, 0)
		followOf(t, s, []api.Level{l, ok}, 0)
	}
}
