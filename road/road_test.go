package road_test

import (
	"math"
	"slices"
	"testing"

	"pritchel/api"
	"pritchel/road"
)

func TestExamples(t *testing.T) {
	r := roadOf(0, 3, 1, 4)
	hands, calls := at(0, 2), []int{1}
	want := spots(1, 0, 2, 3)
	if after, cost := serveOf(t, r, hands, calls); !slices.Equal(after, want) || cost != 6 {
		t.Errorf("Serve = %v, %d", after, cost)
	}
	if costs := costsOf(t, r, hands, calls); !slices.Equal(costs, []int{6}) {
		t.Errorf("Costs = %v", costs)
	}
	if cost := bestOf(t, r, hands, calls); cost != 3 {
		t.Errorf("Best = %d", cost)
	}
	if cost := nearestOf(t, r, hands, calls); cost != 3 {
		t.Errorf("Nearest = %d", cost)
	}
	if plan := planOf(t, r, hands, calls); !slices.Equal(plan, []int{0}) {
		t.Errorf("Plan = %v", plan)
	}
	one, calls := at(0), []int{2, 0}
	if after, cost := serveOf(t, r, one, calls); !slices.Equal(after, one) || cost != 14 {
		t.Errorf("Serve = %v, %d", after, cost)
	}
	for _, cost := range []int{sumOf(costsOf(t, r, one, calls)), bestOf(t, r, one, calls), nearestOf(t, r, one, calls), costOf(t, r, one, calls, []int{0, 0})} {
		if cost != 14 {
			t.Errorf("one farrier: %d", cost)
		}
	}
}

func TestDistance(t *testing.T) {
	eachRoad(func(c chart) {
		for _, a := range c.spots {
			for _, b := range c.spots {
				if d, want := distanceOf(t, c.Road, a, b), c.distance(a, b); d != want {
					t.Fatalf("Distance(%v, %v, %v) = %d, not %d", c.Road, a, b, d, want)
				}
			}
		}
	})
	if d := distanceOf(t, row(10, 20), api.Spot{}, api.Spot{Place: 9}); d != 180 {
		t.Errorf("Distance = %d", d)
	}
	// Spots on one lane, on the lane above it, and on lanes beside it.
	r := roadOf(0, 10, 1, 5, 1, 6)
	for _, c := range []struct {
		a, b api.Spot
		want int
	}{
		{api.Spot{Place: 1, Up: 2}, api.Spot{Place: 1, Up: 9}, 7},
		{api.Spot{Place: 2, Up: 1}, api.Spot{Place: 1, Up: 3}, 7},
		{api.Spot{Place: 2, Up: 1}, api.Spot{Place: 3, Up: 4}, 6},
		{api.Spot{Place: 2, Up: 4}, api.Spot{Place: 1}, 1},
		{api.Spot{Place: 3}, api.Spot{}, 16},
	} {
		if d := distanceOf(t, r, c.a, c.b); d != c.want {
			t.Errorf("Distance(%v, %v) = %d, not %d", c.a, c.b, d, c.want)
		}
	}
}

func checkStep(t *testing.T, c chart, hands []api.Spot, call int) {
	t.Helper()
	if slices.Contains(hands, api.Spot{Place: call}) {
		if after, count, e := road.Step(c.Road, hands, call); len(after) > 0 || count != 0 || e != api.ErrNone {
			t.Fatalf("Step(%v, %v, %d) = %v, %d, %d", c.Road, hands, call, after, count, e)
		}
		return
	}
	want, many := c.step(hands, call)
	if after, count := stepOf(t, c.Road, hands, call); !slices.Equal(after, want) || count != many {
		t.Fatalf("Step(%v, %v, %d) = %v, %d, not %v, %d", c.Road, hands, call, after, count, want, many)
	}
}

func TestStep(t *testing.T) {
	eachSmall(func(c chart) {
		c.eachHands(func(hands []api.Spot) {
			for call := range c.On {
				checkStep(t, c, hands, call)
			}
		})
	})
	r := sequence(4)
	eachRoad(func(c chart) {
		for k := 1; k <= api.MaxHands; k++ {
			for range 30 {
				checkStep(t, c, r.spots(c, k), r.below(len(c.On)))
			}
		}
	})
}

func TestStepHeldUp(t *testing.T) {
	fork := roadOf(0, 5, 1, 3, 1, 3, 1, 1)
	for _, c := range []struct {
		hands []api.Spot
		call  int
		want  []api.Spot
		count int
	}{
		{spots(2, 0, 3, 0), 0, spots(2, 1, 3, 1), 2},
		{spots(2, 2, 3, 2), 0, spots(1, 0, 1, 0), 2},             // both come to a place at once
		{spots(1, 0, 1, 0), 0, spots(1, 1, 1, 0), 1},             // at the same spot the lower number goes
		{spots(3, 1, 3, 1, 3, 1), 2, spots(3, 2, 3, 1, 3, 1), 1}, // also of three
		{spots(2, 0, 1, 0, 3, 0), 0, spots(2, 0, 1, 1, 3, 0), 1}, // the one ahead holds up both others, whatever its number is
		{spots(3, 0, 3, 1), 0, spots(3, 0, 3, 2), 1},             // just ahead
		{spots(3, 0, 2, 1, 3, 2), 0, spots(3, 0, 2, 2, 1, 0), 2}, // one of the others alone
		{spots(1, 4, 0, 0, 4, 0), 2, spots(1, 3, 0, 0, 1, 0), 2}, // down, and up first
		{spots(1, 0, 3, 0), 4, spots(4, 0, 3, 0), 1},             // down into a lane of length 1
		{spots(1, 0, 0, 0), 2, spots(2, 2, 0, 0), 1},
		{spots(4, 0, 0, 0), 1, spots(1, 0, 1, 4), 2},
		{spots(2, 1, 0, 0), 2, spots(2, 0, 0, 0), 1},             // all the way behind it
		{spots(0, 0, 2, 2, 2, 2), 3, spots(1, 4, 1, 0, 2, 2), 2}, // a lower number at the same spot holds up, one elsewhere does not
	} {
		if after, count := stepOf(t, fork, c.hands, c.call); !slices.Equal(after, c.want) || count != c.count {
			t.Errorf("Step(%v, %d) = %v, %d, not %v, %d", c.hands, c.call, after, count, c.want, c.count)
		}
	}
}

// Who is held up is determined again before each step.
func TestServeAgain(t *testing.T) {
	r := roadOf(0, 3, 1, 2, 1, 4)
	// One goes 2 to the place 1, where it is ahead of the other one, which has come 2 of 4.
	if after, cost := serveOf(t, r, at(3, 2), []int{0}); !slices.Equal(after, spots(3, 2, 0, 0)) || cost != 7 {
		t.Errorf("Serve = %v, %d", after, cost)
	}
	// Both are at the place 1 at once; then one goes on.
	if after, cost := serveOf(t, r, spots(3, 2, 2, 0), []int{0}); !slices.Equal(after, spots(0, 0, 1, 0)) || cost != 7 {
		t.Errorf("Serve = %v, %d", after, cost)
	}
	// Both come to the call at once.
	if after, cost := serveOf(t, star(4, 20), at(1, 2, 3), []int{0}); !slices.Equal(after, at(0, 0, 0)) || cost != 60 {
		t.Errorf("Serve = %v, %d", after, cost)
	}
	// Who stays behind holds up those that were sent before.
	if after, cost := serveOf(t, star(4, 20), at(0, 0, 0), []int{1, 2, 3}); !slices.Equal(after, at(1, 2, 3)) || cost != 60 {
		t.Errorf("Serve = %v, %d", after, cost)
	}
}

func TestServe(t *testing.T) {
	check := func(c chart, hands []api.Spot, calls []int) {
		t.Helper()
		want, costs := c.serve(hands, calls)
		if after, cost := serveOf(t, c.Road, hands, calls); !slices.Equal(after, want) || cost != sumOf(costs) {
			t.Fatalf("Serve(%v, %v, %v) = %v, %d, not %v, %d", c.Road, hands, calls, after, cost, want, sumOf(costs))
		}
		if l := costsOf(t, c.Road, hands, calls); !slices.Equal(l, costs) {
			t.Fatalf("Costs(%v, %v, %v) = %v, not %v", c.Road, hands, calls, l, costs)
		}
	}
	eachWay(check)
	eachSmall(func(c chart) {
		c.eachHands(func(hands []api.Spot) {
			for call := range c.On {
				check(c, hands, []int{call, len(c.On) - 1, 0})
			}
		})
	})
	if after, cost := serveOf(t, roadOf(), at(0, 0), []int{0, 0, 0}); !slices.Equal(after, at(0, 0)) || cost != 0 {
		t.Errorf("Serve = %v, %d", after, cost)
	}
}

func checkPlan(t *testing.T, c chart, hands []api.Spot, calls []int) {
	t.Helper()
	want, first := c.best(hands, calls)
	if cost := bestOf(t, c.Road, hands, calls); cost != want {
		t.Fatalf("Best(%v, %v, %v) = %d, not %d", c.Road, hands, calls, cost, want)
	}
	if plan := planOf(t, c.Road, hands, calls); !slices.Equal(plan, first) {
		t.Fatalf("Plan(%v, %v, %v) = %v, not %v", c.Road, hands, calls, plan, first)
	}
}

func TestBestAndPlan(t *testing.T) {
	eachCase(6, func(c chart, hands []api.Spot, calls []int) {
		checkPlan(t, c, hands, calls)
	})
	eachSmall(func(c chart) {
		for _, places := range plansOf(len(c.On), 3) {
			for _, calls := range plansOf(len(c.On), 3) {
				checkPlan(t, c, at(places...), calls)
			}
		}
	})
	r := sequence(5)
	for _, most := range []int{1, 2, api.MaxRoad} {
		c := chartOf(r.road(api.MaxTree, most))
		checkPlan(t, c, at(r.list(api.MaxHands, api.MaxTree)...), r.list(api.MaxCalls, api.MaxTree))
		checkPlan(t, c, at(r.list(2, api.MaxTree)...), r.list(api.MaxCalls, api.MaxTree))
	}
}

func TestPlanIsTheFirst(t *testing.T) {
	for _, c := range []struct {
		r     api.Road
		hands []api.Spot
		calls []int
		want  []int
		cost  int
	}{
		{roadOf(), at(0, 0, 0), []int{0, 0, 0}, []int{0, 0, 0}, 0},
		{row(3, 5), at(0, 2), []int{1}, []int{0}, 5},
		{row(3, 5), at(2, 0), []int{1}, []int{0}, 5},
		{row(3, 5), at(0, 2), []int{1, 0}, []int{1, 0}, 5},             // what is nearest and first may be worse later
		{row(3, 5), at(0, 2, 2), []int{1, 0}, []int{1, 0}, 5},          // of two that are alike the first one goes
		{row(3, 5), at(0, 1), []int{0, 1, 0, 1}, []int{0, 1, 0, 1}, 0}, // nobody has to go
		{row(2, 5), at(1, 1), []int{1, 0}, []int{0, 0}, 5},
		{star(4, 7), at(0, 0, 0), []int{1, 2, 3, 1, 2, 3}, []int{0, 1, 2, 0, 1, 2}, 21},
		{star(4, 7), at(0, 0), []int{1, 2, 3}, []int{0, 0, 1}, 28}, // either may go twice, and either time: the first one at first
	} {
		plan, cost := planOf(t, c.r, c.hands, c.calls), bestOf(t, c.r, c.hands, c.calls)
		if cost != c.cost || !slices.Equal(plan, c.want) {
			t.Errorf("Plan(%v, %v, %v) = %v: %d, not %v: %d", c.r, c.hands, c.calls, plan, cost, c.want, c.cost)
		}
	}
}

func TestCost(t *testing.T) {
	r := sequence(6)
	eachCase(api.MaxCalls, func(c chart, hands []api.Spot, calls []int) {
		for range 5 {
			plan := r.list(len(calls), len(hands))
			if cost, want := costOf(t, c.Road, hands, calls, plan), c.cost(hands, calls, plan); cost != want {
				t.Fatalf("Cost(%v, %v, %v, %v) = %d, not %d", c.Road, hands, calls, plan, cost, want)
			}
		}
	})
	eachSmall(func(c chart) {
		for _, calls := range plansOf(len(c.On), 3) {
			hands := at(0, calls[0], calls[2])
			for _, plan := range plansOf(len(hands), 3) {
				if cost, want := costOf(t, c.Road, hands, calls, plan), c.cost(hands, calls, plan); cost != want {
					t.Fatalf("Cost(%v, %v, %v, %v) = %d, not %d", c.Road, hands, calls, plan, cost, want)
				}
			}
		}
	})
	if cost := costOf(t, row(10, 20), at(0), []int{9, 0, 9, 0, 9, 0, 9, 0, 9, 0, 9, 0}, make([]int, 12)); cost != 2160 {
		t.Errorf("Cost = %d", cost)
	}
}

func TestNearest(t *testing.T) {
	eachCase(api.MaxCalls, func(c chart, hands []api.Spot, calls []int) {
		if cost, want := nearestOf(t, c.Road, hands, calls), c.nearest(hands, calls); cost != want {
			t.Fatalf("Nearest(%v, %v, %v) = %d, not %d", c.Road, hands, calls, cost, want)
		}
	})
	// The nearest one goes to and fro, and of two that are as near the first one.
	for _, c := range []struct {
		hands []api.Spot
		calls []int
		want  int
	}{
		{at(0, 3), []int{1, 0, 1, 0, 1}, 25},
		{at(0, 2), []int{1, 0}, 10},
		{at(2, 0), []int{1, 0}, 5},
		{at(2, 0), []int{1, 2}, 10},
		{at(0, 0), []int{0, 0}, 0},
		{at(1), nil, 0},
	} {
		if cost := nearestOf(t, row(4, 5), c.hands, c.calls); cost != c.want {
			t.Errorf("Nearest(%v, %v) = %d, not %d", c.hands, c.calls, cost, c.want)
		}
	}
}

func TestPotential(t *testing.T) {
	check := func(c chart, a, b []api.Spot) {
		t.Helper()
		if x, want := potentialOf(t, c.Road, a, b), c.potential(a, b); x != want {
			t.Fatalf("Potential(%v, %v, %v) = %d, not %d", c.Road, a, b, x, want)
		}
	}
	r := sequence(7)
	eachRoad(func(c chart) {
		for k := 1; k <= api.MaxHands; k++ {
			for range 30 {
				check(c, r.spots(c, k), r.spots(c, k))
			}
		}
	})
	eachSmall(func(c chart) {
		c.eachHands(func(a []api.Spot) {
			check(c, a, r.spots(c, len(a)))
		})
	})
	for _, c := range []struct {
		a, b []api.Spot
		want int
	}{
		{at(0), at(3), 15},
		{at(0, 3), at(3, 0), 15}, // pairs of the first list alone, and in any order
		{at(0, 0), at(0, 3), 30},
		{at(0, 3), at(0, 0), 45},
		{at(0, 1, 3), at(0, 1, 3), 30},
		{at(1, 1, 1), spots(1, 1, 1, 0, 2, 4), 6},
	} {
		if x := potentialOf(t, row(4, 5), c.a, c.b); x != c.want {
			t.Errorf("Potential(%v, %v) = %d, not %d", c.a, c.b, x, c.want)
		}
	}
}

// given is arguments of all functions.
type given struct {
	r     api.Road
	hands []api.Spot
	calls []int
}

// errors returns the errors of all functions that take farriers and calls, and reports whether all else is zero.
func (g given) errors() ([]api.Errno, bool) {
	l, a, e1 := road.Serve(g.r, g.hands, g.calls)
	costs, e2 := road.Costs(g.r, g.hands, g.calls)
	b, e3 := road.Best(g.r, g.hands, g.calls)
	plan, e4 := road.Plan(g.r, g.hands, g.calls)
	c, e5 := road.Cost(g.r, g.hands, g.calls, make([]int, len(g.calls)))
	d, e6 := road.Nearest(g.r, g.hands, g.calls)
	return []api.Errno{e1, e2, e3, e4, e5, e6}, len(l)+len(costs)+len(plan) == 0 && a == 0 && b == 0 && c == 0 && d == 0
}

func checkArg(t *testing.T, g given) {
	t.Helper()
	errs, zero := g.errors()
	if !slices.Equal(errs, slices.Repeat([]api.Errno{api.ErrArg}, 6)) || !zero {
		t.Errorf("%v: errors %v, %t", g, errs, zero)
	}
	// A plan that is malformed comes second.
	if x, e := road.Cost(g.r, g.hands, g.calls, []int{-1}); x != 0 || e != api.ErrArg {
		t.Errorf("Cost(%v) = %d, %d", g, x, e)
	}
}

func checkSpots(t *testing.T, r api.Road, hands []api.Spot) {
	t.Helper()
	good := slices.Repeat(at(0), len(hands))
	for _, two := range [][2][]api.Spot{{hands, good}, {good, hands}, {hands, hands}} {
		if x, e := road.Potential(r, two[0], two[1]); x != 0 || e != api.ErrArg {
			t.Errorf("Potential(%v, %v, %v) = %d, %d", r, two[0], two[1], x, e)
		}
	}
	for call := range r.On {
		if l, x, e := road.Step(r, hands, call); len(l) > 0 || x != 0 || e != api.ErrArg {
			t.Errorf("Step(%v, %v, %d) = %v, %d, %d", r, hands, call, l, x, e)
		}
	}
	checkArg(t, given{r, hands, nil})
}

func TestRoadsThatAreNotValid(t *testing.T) {
	long := row(api.MaxTree+1, 1)
	for _, r := range []api.Road{
		{}, {On: []int{0}}, {Length: []int{0}}, {On: []int{0}, Length: []int{0, 1}}, {On: []int{0, 0}, Length: []int{0}},
		{On: []int{1}, Length: []int{0}}, {On: []int{-1}, Length: []int{0}}, {On: []int{0}, Length: []int{1}}, {On: []int{0}, Length: []int{-1}},
		{On: []int{0, 0}, Length: []int{1, 1}}, {On: []int{1, 0}, Length: []int{0, 1}},
		roadOf(1, 1), roadOf(-1, 1), roadOf(2, 1, 0, 1), roadOf(0, 1, 2, 1), roadOf(0, 1, 3, 1), roadOf(0, 0), roadOf(0, -1), roadOf(0, 21), roadOf(0, 20, 1, 21),
		roadOf(0, math.MaxInt), roadOf(0, math.MinInt), roadOf(math.MaxInt, 1), roadOf(math.MinInt, 1), long, row(100, 1),
	} {
		if d, e := road.Distance(r, api.Spot{}, api.Spot{}); d != 0 || e != api.ErrArg {
			t.Errorf("Distance(%v) = %d, %d", r, d, e)
		}
		checkArg(t, given{r, at(0), []int{0}})
		checkSpots(t, r, at(0))
		if l, x, e := road.Step(r, at(0), 1); len(l) > 0 || x != 0 || e != api.ErrArg {
			t.Errorf("Step(%v) = %v, %d, %d", r, l, x, e)
		}
	}
	for _, r := range []api.Road{roadOf(), row(api.MaxTree, api.MaxRoad), star(api.MaxTree, 1)} {
		if d, e := road.Distance(r, api.Spot{}, api.Spot{}); d != 0 || e != api.OK {
			t.Errorf("Distance(%v) = %d, %d", r, d, e)
		}
	}
}

func TestSpotsThatAreNotValid(t *testing.T) {
	r := roadOf(0, 3, 1, 4)
	for _, s := range spots(-1, 0, 3, 0, 0, 1, 0, -1, 1, 3, 1, -1, 2, 4, 2, 20, 1, math.MaxInt, 1, math.MinInt, math.MaxInt, 0, math.MinInt, 0, math.MaxInt, math.MaxInt, 0, math.MaxInt) {
		for _, two := range [][]api.Spot{{s, {}}, {{}, s}, {s, s}} {
			if d, e := road.Distance(r, two[0], two[1]); d != 0 || e != api.ErrArg {
				t.Errorf("Distance(%v, %v) = %d, %d", two[0], two[1], d, e)
			}
		}
		for _, hands := range [][]api.Spot{{s}, {{}, s}, {s, {Place: 1}}, {{Place: 2}, {}, s}} {
			checkSpots(t, r, hands)
			checkArg(t, given{r, hands, []int{0, 1}})
		}
	}
	for _, hands := range [][]api.Spot{nil, {}, at(0, 0, 0, 0), at(0, 1, 2, 0, 1)} {
		checkSpots(t, r, hands)
		checkArg(t, given{r, hands, []int{1}})
	}
	for _, two := range [][2][]api.Spot{{at(0), at(0, 1)}, {at(0, 1), at(0)}, {at(0, 1), at(0, 1, 2)}, {at(0), nil}, {nil, at(0)}} {
		if x, e := road.Potential(r, two[0], two[1]); x != 0 || e != api.ErrArg {
			t.Errorf("Potential(%v, %v) = %d, %d", two[0], two[1], x, e)
		}
	}
}

func TestCallsThatAreNotValid(t *testing.T) {
	r := roadOf(0, 3, 1, 4)
	for _, call := range []int{-1, 3, 4, math.MaxInt, math.MinInt} {
		if l, x, e := road.Step(r, at(0), call); len(l) > 0 || x != 0 || e != api.ErrArg {
			t.Errorf("Step(%d) = %v, %d, %d", call, l, x, e)
		}
		checkArg(t, given{r, at(0), []int{call}})
		checkArg(t, given{r, at(0, 1), []int{0, 1, call}})
	}
	checkArg(t, given{r, at(0), make([]int, api.MaxCalls+1)})
	checkArg(t, given{r, at(0), make([]int, 1000)})
	if errs, _ := (given{r, at(0), make([]int, api.MaxCalls)}).errors(); !slices.Equal(errs, make([]api.Errno, 6)) {
		t.Errorf("errors %v", errs)
	}
}

// A plan begins with the farriers at places; Serve and Costs need not.
func TestFarriersBetweenPlaces(t *testing.T) {
	r := roadOf(0, 3, 1, 4)
	none := api.ErrArg
	for _, hands := range [][]api.Spot{spots(1, 1), spots(0, 0, 2, 3), spots(1, 2, 0, 0, 0, 0)} {
		for _, calls := range [][]int{nil, {1}, {0, 2}} {
			errs, _ := given{r, hands, calls}.errors()
			if !slices.Equal(errs, []api.Errno{api.OK, api.OK, none, none, none, none}) {
				t.Errorf("%v, %v: errors %v", hands, calls, errs)
			}
			if x, e := road.Cost(r, hands, calls, []int{9}); x != 0 || e != none {
				t.Errorf("Cost(%v, %v) = %d, %d", hands, calls, x, e)
			}
		}
	}
}

func TestPlansThatAreMalformed(t *testing.T) {
	r := roadOf(0, 3, 1, 4)
	for _, c := range []struct {
		hands       []api.Spot
		calls, plan []int
	}{
		{at(0), []int{1}, nil},
		{at(0), []int{1}, []int{0, 0}},
		{at(0), []int{1}, []int{1}},
		{at(0), []int{1}, []int{-1}},
		{at(0), nil, []int{0}},
		{at(0, 2), []int{1, 2}, []int{0}},
		{at(0, 2), []int{1, 2}, []int{0, 2}},
		{at(0, 2), []int{1, 2}, []int{2, 0}},
		{at(0, 2, 1), []int{1, 2}, []int{0, 3}},
		{at(0, 2, 1), []int{1, 2}, []int{0, math.MaxInt}},
		{at(0, 2, 1), []int{1, 2}, []int{math.MinInt, 0}},
		{at(0, 2, 1), []int{1, 2}, make([]int, 1000)},
	} {
		if x, e := road.Cost(r, c.hands, c.calls, c.plan); x != 0 || e != api.ErrForm {
			t.Errorf("Cost(%v, %v, %v) = %d, %d", c.hands, c.calls, c.plan, x, e)
		}
	}
}
