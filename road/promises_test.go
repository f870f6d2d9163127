package road_test

import (
	"slices"
	"strconv"
	"testing"

	"pritchel/api"
	"pritchel/road"
)

// D1
func TestChrobakLarmore(t *testing.T) {
	dearer := 0
	eachCase(api.MaxCalls, func(c chart, hands []api.Spot, calls []int) {
		_, cost := serveOf(t, c.Road, hands, calls)
		best := bestOf(t, c.Road, hands, calls)
		if limit := len(hands)*best + c.pairs(hands); cost > limit {
			t.Errorf("Serve(%v, %v, %v) costs %d, Best %d", c.Road, hands, calls, cost, best)
		}
		if cost > best {
			dearer++
		}
	})
	if dearer < 100 {
		t.Errorf("only %d cases cost more than the best", dearer)
	}
}

// checkFall checks that in a step the potential becomes less by what it should, against these spots.
func checkFall(t *testing.T, c chart, hands []api.Spot, call int, against []api.Spot) {
	t.Helper()
	if slices.Contains(hands, api.Spot{Place: call}) || !slices.Contains(against, api.Spot{Place: call}) {
		return
	}
	after, count := stepOf(t, c.Road, hands, call)
	if x, y := potentialOf(t, c.Road, hands, against), potentialOf(t, c.Road, after, against); count < 1 || y > x-count {
		t.Fatalf("Step(%v, %v, %d) = %v, %d: Potential against %v was %d, and is %d", c.Road, hands, call, after, count, against, x, y)
	}
}

// D2
func TestPotentialFalls(t *testing.T) {
	r := sequence(8)
	eachSmall(func(c chart) {
		c.eachHands(func(hands []api.Spot) {
			for call := range c.On {
				for range 3 {
					against := r.spots(c, len(hands))
					against[r.below(len(hands))] = api.Spot{Place: call}
					checkFall(t, c, hands, call, against)
				}
			}
		})
	})
	eachRoad(func(c chart) {
		for k := 1; k <= api.MaxHands; k++ {
			for range 60 {
				call := r.below(len(c.On))
				against := r.spots(c, k)
				against[r.below(k)] = api.Spot{Place: call}
				checkFall(t, c, r.spots(c, k), call, against)
			}
		}
	})
}

// D3
func TestNoPlanCostsLess(t *testing.T) {
	r := sequence(9)
	eachCase(api.MaxCalls, func(c chart, hands []api.Spot, calls []int) {
		best := bestOf(t, c.Road, hands, calls)
		plan := planOf(t, c.Road, hands, calls)
		if cost := costOf(t, c.Road, hands, calls, plan); cost != best {
			t.Errorf("Plan(%v, %v, %v) = %v costs %d, Best %d", c.Road, hands, calls, plan, cost, best)
		}
		if cost := nearestOf(t, c.Road, hands, calls); cost < best {
			t.Errorf("Nearest(%v, %v, %v) = %d, Best %d", c.Road, hands, calls, cost, best)
		}
		// Of the plan, some calls are served by others.
		for range 20 {
			if len(calls) > 0 {
				plan[r.below(len(plan))] = r.below(len(hands))
			}
			if cost := costOf(t, c.Road, hands, calls, plan); cost < best {
				t.Errorf("Best(%v, %v, %v) = %d, but %v costs %d", c.Road, hands, calls, best, plan, cost)
			}
		}
	})
	eachCase(5, func(c chart, hands []api.Spot, calls []int) {
		best := bestOf(t, c.Road, hands, calls)
		first := planOf(t, c.Road, hands, calls)
		for _, plan := range plansOf(len(hands), len(calls)) {
			cost := costOf(t, c.Road, hands, calls, plan)
			if cost < best || cost == best && slices.Compare(plan, first) < 0 {
				t.Fatalf("Plan(%v, %v, %v) = %v: %d, but %v costs %d", c.Road, hands, calls, first, best, plan, cost)
			}
		}
	})
}

// D4
func TestOneFarrier(t *testing.T) {
	r := sequence(10)
	eachRoad(func(c chart) {
		for range 5 {
			hands, calls := at(r.below(len(c.On))), r.list(r.below(api.MaxCalls+1), len(c.On))
			_, cost := serveOf(t, c.Road, hands, calls)
			if best, near := bestOf(t, c.Road, hands, calls), nearestOf(t, c.Road, hands, calls); best != cost || near != cost {
				t.Errorf("%v, %v, %v: Serve %d, Best %d, Nearest %d", c.Road, hands, calls, cost, best, near)
			}
		}
	})
}

// D5
func TestSomeoneIsThere(t *testing.T) {
	eachWay(func(c chart, hands []api.Spot, calls []int) {
		for i, call := range calls {
			before, _ := serveOf(t, c.Road, hands, calls[:i])
			after, cost := serveOf(t, c.Road, before, []int{call})
			if !slices.Contains(after, api.Spot{Place: call}) {
				t.Fatalf("Serve(%v, %v, %d) = %v", c.Road, before, call, after)
			}
			if is := slices.Contains(before, api.Spot{Place: call}); is != (cost == 0) || is && !slices.Equal(after, before) {
				t.Fatalf("Serve(%v, %v, %d) = %v, %d", c.Road, before, call, after, cost)
			}
			if costs := costsOf(t, c.Road, after, []int{call, call}); sumOf(costs) != 0 {
				t.Fatalf("Costs(%v, %v, %d) = %v", c.Road, after, call, costs)
			}
		}
	})
}

// twice returns a road, or farriers on it, with all numbers doubled that are lengths.
func twice(r api.Road, hands []api.Spot) (api.Road, []api.Spot) {
	double := api.Road{On: r.On}
	for _, length := range r.Length {
		double.Length = append(double.Length, 2*length)
	}
	var there []api.Spot
	for _, s := range hands {
		there = append(there, api.Spot{Place: s.Place, Up: 2 * s.Up})
	}
	return double, there
}

// D6
func TestTwice(t *testing.T) {
	r := sequence(11)
	eachWay(func(c chart, hands []api.Spot, calls []int) {
		if slices.Max(c.Length) > api.MaxRoad/2 {
			return
		}
		double, there := twice(c.Road, hands)
		after, cost := serveOf(t, c.Road, hands, calls)
		_, want := twice(c.Road, after)
		if l, x := serveOf(t, double, there, calls); x != 2*cost || !slices.Equal(l, want) {
			t.Fatalf("Serve(%v, %v, %v) = %v, %d, not %v, %d", double, there, calls, l, x, want, 2*cost)
		}
		for i, x := range costsOf(t, double, there, calls) {
			if y := costsOf(t, c.Road, hands, calls)[i]; x != 2*y {
				t.Fatalf("Costs(%v, %v, %v)[%d] = %d, not %d", double, there, calls, i, x, 2*y)
			}
		}
		if x, y := potentialOf(t, double, there, there), potentialOf(t, c.Road, hands, hands); x != 2*y {
			t.Fatalf("Potential(%v, %v) = %d, not %d", double, there, x, 2*y)
		}
		places := at(r.list(len(hands), len(c.On))...)
		if x, y := bestOf(t, double, places, calls), bestOf(t, c.Road, places, calls); x != 2*y {
			t.Fatalf("Best(%v, %v, %v) = %d, not %d", double, places, calls, x, 2*y)
		}
		if x, y := nearestOf(t, double, places, calls), nearestOf(t, c.Road, places, calls); x != 2*y {
			t.Fatalf("Nearest(%v, %v, %v) = %d, not %d", double, places, calls, x, 2*y)
		}
		plan := planOf(t, double, places, calls)
		if x, y := costOf(t, double, places, calls, plan), costOf(t, c.Road, places, calls, plan); x != 2*y || !slices.Equal(plan, planOf(t, c.Road, places, calls)) {
			t.Fatalf("Plan(%v, %v, %v) = %v costs %d, not %d", double, places, calls, plan, x, 2*y)
		}
	})
}

// D7
func TestBegun(t *testing.T) {
	eachWay(func(c chart, hands []api.Spot, calls []int) {
		after, cost := serveOf(t, c.Road, hands, calls)
		costs := costsOf(t, c.Road, hands, calls)
		if len(costs) != len(calls) || sumOf(costs) != cost {
			t.Fatalf("Costs(%v, %v, %v) = %v, Serve %d", c.Road, hands, calls, costs, cost)
		}
		for i := range len(calls) + 1 {
			half, first := serveOf(t, c.Road, hands, calls[:i])
			end, second := serveOf(t, c.Road, half, calls[i:])
			if first+second != cost || !slices.Equal(end, after) {
				t.Fatalf("Serve(%v, %v, %v) = %v, %d, but %v, %d + %d by %d calls first", c.Road, hands, calls, after, cost, end, first, second, i)
			}
			if l := slices.Concat(costsOf(t, c.Road, hands, calls[:i]), costsOf(t, c.Road, half, calls[i:])); !slices.Equal(l, costs) {
				t.Fatalf("Costs(%v, %v, %v) = %v, but %v by %d calls first", c.Road, hands, calls, costs, l, i)
			}
		}
	})
}

// D7, by steps: they lead to the same as Serve.
func TestSteps(t *testing.T) {
	eachWay(func(c chart, hands []api.Spot, calls []int) {
		if len(calls) == 0 {
			return
		}
		after, cost := serveOf(t, c.Road, hands, calls[:1])
		sum := 0
		for !slices.Contains(hands, api.Spot{Place: calls[0]}) {
			next, count := stepOf(t, c.Road, hands, calls[0])
			hands = next
			sum += count
		}
		if !slices.Equal(hands, after) || sum != cost {
			t.Fatalf("Serve(%v, %v) = %v, %d, but %v, %d by steps", c.Road, calls[:1], after, cost, hands, sum)
		}
	})
}

// D8
func TestTriangle(t *testing.T) {
	r := sequence(12)
	check := func(c chart, s, p, q api.Spot) {
		t.Helper()
		d := distanceOf(t, c.Road, s, q)
		if d > distanceOf(t, c.Road, s, p)+distanceOf(t, c.Road, p, q) || d != distanceOf(t, c.Road, q, s) || (d == 0) != (s == q) || d < 0 {
			t.Fatalf("Distance(%v, %v, %v) = %d, by %v otherwise", c.Road, s, q, d, p)
		}
	}
	eachSmall(func(c chart) {
		for _, s := range c.spots {
			for _, p := range c.spots {
				for _, q := range c.spots {
					check(c, s, p, q)
				}
			}
		}
	})
	eachRoad(func(c chart) {
		for range 500 {
			l := r.spots(c, 3)
			check(c, l[0], l[1], l[2])
		}
	})
}

// every returns arguments of all functions, drawn from a sequence.
type every struct {
	r           api.Road
	hands       []api.Spot
	places      []api.Spot
	calls, plan []int
}

func (r *sequence) every() every {
	c := chartOf(r.road(1+r.below(api.MaxTree), api.MaxRoad))
	k, count := 1+r.below(api.MaxHands), r.below(api.MaxCalls+1)
	return every{c.Road, r.spots(c, k), at(r.list(k, len(c.On))...), r.list(count, len(c.On)), r.list(count, k)}
}

// results returns all results.
func (g every) results(t *testing.T) []int {
	t.Helper()
	after, cost := serveOf(t, g.r, g.hands, g.calls)
	l := []int{cost, bestOf(t, g.r, g.places, g.calls), nearestOf(t, g.r, g.places, g.calls), costOf(t, g.r, g.places, g.calls, g.plan)}
	l = slices.Concat(l, costsOf(t, g.r, g.hands, g.calls), planOf(t, g.r, g.places, g.calls))
	l = append(l, potentialOf(t, g.r, g.hands, g.places), distanceOf(t, g.r, g.hands[0], g.places[0]))
	for _, call := range g.calls {
		next, count, e := road.Step(g.r, g.hands, call)
		after = append(after, next...)
		l = append(l, count, int(e))
	}
	for _, s := range after {
		l = append(l, s.Place, s.Up)
	}
	return l
}

// clone returns the same in new memory, in which more comes behind the end of everything.
func (g every) clone() (same, long every) {
	long = every{
		api.Road{On: append(slices.Clone(g.r.On), -1), Length: append(slices.Clone(g.r.Length), -1)},
		append(slices.Clone(g.hands), api.Spot{Place: -1}), append(slices.Clone(g.places), api.Spot{Up: -1}),
		append(slices.Clone(g.calls), -1), append(slices.Clone(g.plan), -1),
	}
	same = every{
		api.Road{On: long.r.On[:len(g.r.On)], Length: long.r.Length[:len(g.r.Length)]},
		long.hands[:len(g.hands)], long.places[:len(g.places)], long.calls[:len(g.calls)], long.plan[:len(g.plan)],
	}
	return same, long
}

func (g every) text() string {
	s := ""
	for _, l := range [][]int{g.r.On, g.r.Length, g.calls, g.plan} {
		for _, x := range l {
			s += " " + strconv.Itoa(x)
		}
		s += ";"
	}
	for _, x := range slices.Concat(g.hands, g.places) {
		s += " " + strconv.Itoa(x.Place) + "/" + strconv.Itoa(x.Up)
	}
	return s
}

// R5 and R6: arguments stay as they are, also behind their ends, and results depend on them alone.
func TestArguments(t *testing.T) {
	r := sequence(13)
	for range 300 {
		g := r.every()
		want := g.results(t)
		same, long := g.clone()
		before := long.text()
		if l := same.results(t); !slices.Equal(l, want) {
			t.Fatalf("%v: %v, then %v", g, want, l)
		}
		if after := long.text(); after != before {
			t.Fatalf("arguments were changed from %s to %s", before, after)
		}
		if l := g.results(t); !slices.Equal(l, want) {
			t.Fatalf("%v: %v, then %v", g, want, l)
		}
	}
}

// R5: what is done to a result is seen in no argument, and in no other result.
func TestResultsApart(t *testing.T) {
	r := sequence(14)
	for range 300 {
		g := r.every()
		same, long := g.clone()
		before, want := long.text(), same.results(t)
		for i := range len(g.calls) + 1 {
			after, _ := serveOf(t, same.r, same.hands, same.calls[:i])
			clear(after[:cap(after)])
		}
		for _, call := range g.calls {
			after, _, _ := road.Step(same.r, same.hands, call)
			clear(after[:cap(after)])
		}
		for _, l := range [][]int{costsOf(t, same.r, same.hands, same.calls), planOf(t, same.r, same.places, same.calls)} {
			clear(l[:cap(l)])
		}
		if long.text() != before {
			t.Fatalf("arguments were changed from %s to %s", before, long.text())
		}
		if l := same.results(t); !slices.Equal(l, want) {
			t.Fatalf("%v: %v, then %v", g, want, l)
		}
	}
}

// R4
func TestNilAndEmpty(t *testing.T) {
	r := roadOf(0, 3, 1, 4)
	hands := at(2, 0)
	for _, calls := range [][]int{nil, {}, {5}} {
		calls = calls[:0]
		if after, cost := serveOf(t, r, hands, calls); !slices.Equal(after, hands) || cost != 0 {
			t.Errorf("Serve = %v, %d", after, cost)
		}
		if l := costsOf(t, r, hands, calls); len(l) > 0 {
			t.Errorf("Costs = %v", l)
		}
		if l := planOf(t, r, hands, calls); len(l) > 0 {
			t.Errorf("Plan = %v", l)
		}
		if x := bestOf(t, r, hands, calls) + nearestOf(t, r, hands, calls) + costOf(t, r, hands, nil, calls) + costOf(t, r, hands, calls, nil); x != 0 {
			t.Errorf("no calls cost %d", x)
		}
		if x, e := road.Cost(r, hands, []int{1}, calls); x != 0 || e != api.ErrForm {
			t.Errorf("Cost = %d, %d", x, e)
		}
	}
}
