package road_test

import (
	"slices"
	"testing"

	"pritchel/api"
	"pritchel/road"
)

// This file works by the definitions of the chapter, as slowly and plainly as they are written, and makes cases.

// roadOf returns a road, each place but the first one given by the place that it hangs on and a length.
func roadOf(numbers ...int) api.Road {
	r := api.Road{On: []int{0}, Length: []int{0}}
	for i := 0; i < len(numbers); i += 2 {
		r.On, r.Length = append(r.On, numbers[i]), append(r.Length, numbers[i+1])
	}
	return r
}

// spots returns spots, each given by a place and how far up it is.
func spots(numbers ...int) []api.Spot {
	var l []api.Spot
	for i := 0; i < len(numbers); i += 2 {
		l = append(l, api.Spot{Place: numbers[i], Up: numbers[i+1]})
	}
	return l
}

// at returns spots at places.
func at(places ...int) []api.Spot {
	var l []api.Spot
	for _, p := range places {
		l = append(l, api.Spot{Place: p})
	}
	return l
}

// chart is a road with all its spots, and how far any two of them are apart.
type chart struct {
	api.Road
	spots  []api.Spot
	number map[api.Spot]int
	beside [][]int
	far    [][]int
}

// chartOf joins the spots that are 1 apart, and measures all distances by going on from spot to spot.
func chartOf(r api.Road) chart {
	c := chart{Road: r, number: map[api.Spot]int{}}
	for place := range r.On {
		for up := range max(1, r.Length[place]) {
			s := api.Spot{Place: place, Up: up}
			c.number[s] = len(c.spots)
			c.spots = append(c.spots, s)
		}
	}
	c.beside = make([][]int, len(c.spots))
	for i, s := range c.spots {
		if s.Place == 0 {
			continue
		}
		above := api.Spot{Place: s.Place, Up: s.Up + 1}
		if above.Up == r.Length[s.Place] {
			above = api.Spot{Place: r.On[s.Place]}
		}
		j := c.number[above]
		c.beside[i], c.beside[j] = append(c.beside[i], j), append(c.beside[j], i)
	}
	for i := range c.spots {
		c.far = append(c.far, c.distances(i))
	}
	return c
}

func (c chart) distances(from int) []int {
	far := slices.Repeat([]int{-1}, len(c.spots))
	far[from] = 0
	reached := []int{from}
	for len(reached) > 0 {
		for _, j := range c.beside[reached[0]] {
			if far[j] < 0 {
				far[j] = far[reached[0]] + 1
				reached = append(reached, j)
			}
		}
		reached = reached[1:]
	}
	return far
}

func (c chart) distance(a, b api.Spot) int {
	return c.far[c.number[a]][c.number[b]]
}

// way returns the spots that come one after the other from a, which is not among them, to b.
func (c chart) way(a, b api.Spot) []api.Spot {
	var way []api.Spot
	i, j := c.number[a], c.number[b]
	for i != j {
		i = c.beside[i][slices.IndexFunc(c.beside[i], func(next int) bool { return c.far[next][j] < c.far[i][j] })]
		way = append(way, c.spots[i])
	}
	return way
}

func (c chart) step(hands []api.Spot, call int) ([]api.Spot, int) {
	var after []api.Spot
	count := 0
	for i, s := range hands {
		way := c.way(s, api.Spot{Place: call})
		held := slices.Contains(hands[:i], s)
		for _, other := range hands {
			held = held || slices.Contains(way, other)
		}
		if !held {
			s = way[0]
			count++
		}
		after = append(after, s)
	}
	return after, count
}

func (c chart) serve(hands []api.Spot, calls []int) ([]api.Spot, []int) {
	var costs []int
	for _, call := range calls {
		cost := 0
		for !slices.Contains(hands, api.Spot{Place: call}) {
			after, count := c.step(hands, call)
			hands = after
			cost += count
		}
		costs = append(costs, cost)
	}
	return hands, costs
}

// sent returns the farriers after one of them went to a call, and how far that was.
func (c chart) sent(hands []api.Spot, hand, call int) ([]api.Spot, int) {
	after := slices.Clone(hands)
	after[hand] = api.Spot{Place: call}
	return after, c.distance(hands[hand], after[hand])
}

// best tries all plans, the lexicographically lesser ones first.
func (c chart) best(hands []api.Spot, calls []int) (int, []int) {
	if len(calls) == 0 {
		return 0, nil
	}
	least, first := -1, []int(nil)
	for hand := range hands {
		after, cost := c.sent(hands, hand, calls[0])
		rest, plan := c.best(after, calls[1:])
		if cost += rest; least < 0 || cost < least {
			least, first = cost, append([]int{hand}, plan...)
		}
	}
	return least, first
}

func (c chart) cost(hands []api.Spot, calls, plan []int) int {
	sum := 0
	for i, hand := range plan {
		after, cost := c.sent(hands, hand, calls[i])
		hands = after
		sum += cost
	}
	return sum
}

func (c chart) nearest(hands []api.Spot, calls []int) int {
	sum := 0
	for _, call := range calls {
		first := 0
		for hand := range hands {
			if c.distance(hands[hand], api.Spot{Place: call}) < c.distance(hands[first], api.Spot{Place: call}) {
				first = hand
			}
		}
		after, cost := c.sent(hands, first, call)
		hands = after
		sum += cost
	}
	return sum
}

// pairs returns the sum of the distances of all pairs of spots.
func (c chart) pairs(l []api.Spot) int {
	sum := 0
	for i := range l {
		for j := i + 1; j < len(l); j++ {
			sum += c.distance(l[i], l[j])
		}
	}
	return sum
}

// orders returns all orders of the numbers below n.
func orders(n int) [][]int {
	if n == 0 {
		return [][]int{nil}
	}
	var all [][]int
	for _, l := range orders(n - 1) {
		for i := range n {
			all = append(all, slices.Insert(slices.Clone(l), i, n-1))
		}
	}
	return all
}

func (c chart) potential(a, b []api.Spot) int {
	least := -1
	for _, order := range orders(len(b)) {
		sum := 0
		for i, j := range order {
			sum += c.distance(a[i], b[j])
		}
		if least < 0 || sum < least {
			least = sum
		}
	}
	return len(a)*least + c.pairs(a)
}

func sumOf(l []int) int {
	sum := 0
	for _, x := range l {
		sum += x
	}
	return sum
}

// plansOf returns all plans of k farriers for n calls.
func plansOf(k, n int) [][]int {
	all := [][]int{nil}
	for range n {
		var longer [][]int
		for _, plan := range all {
			for hand := range k {
				longer = append(longer, append(slices.Clone(plan), hand))
			}
		}
		all = longer
	}
	return all
}

func distanceOf(t *testing.T, r api.Road, a, b api.Spot) int {
	t.Helper()
	d, e := road.Distance(r, a, b)
	if e != api.OK {
		t.Fatalf("Distance(%v, %v, %v): error %d", r, a, b, e)
	}
	return d
}

func stepOf(t *testing.T, r api.Road, hands []api.Spot, call int) ([]api.Spot, int) {
	t.Helper()
	after, count, e := road.Step(r, hands, call)
	if e != api.OK {
		t.Fatalf("Step(%v, %v, %d): error %d", r, hands, call, e)
	}
	return after, count
}

func serveOf(t *testing.T, r api.Road, hands []api.Spot, calls []int) ([]api.Spot, int) {
	t.Helper()
	after, cost, e := road.Serve(r, hands, calls)
	if e != api.OK {
		t.Fatalf("Serve(%v, %v, %v): error %d", r, hands, calls, e)
	}
	return after, cost
}

func costsOf(t *testing.T, r api.Road, hands []api.Spot, calls []int) []int {
	t.Helper()
	costs, e := road.Costs(r, hands, calls)
	if e != api.OK {
		t.Fatalf("Costs(%v, %v, %v): error %d", r, hands, calls, e)
	}
	return costs
}

func bestOf(t *testing.T, r api.Road, hands []api.Spot, calls []int) int {
	t.Helper()
	cost, e := road.Best(r, hands, calls)
	if e != api.OK {
		t.Fatalf("Best(%v, %v, %v): error %d", r, hands, calls, e)
	}
	return cost
}

func planOf(t *testing.T, r api.Road, hands []api.Spot, calls []int) []int {
	t.Helper()
	plan, e := road.Plan(r, hands, calls)
	if e != api.OK {
		t.Fatalf("Plan(%v, %v, %v): error %d", r, hands, calls, e)
	}
	return plan
}

func costOf(t *testing.T, r api.Road, hands []api.Spot, calls, plan []int) int {
	t.Helper()
	cost, e := road.Cost(r, hands, calls, plan)
	if e != api.OK {
		t.Fatalf("Cost(%v, %v, %v, %v): error %d", r, hands, calls, plan, e)
	}
	return cost
}

func nearestOf(t *testing.T, r api.Road, hands []api.Spot, calls []int) int {
	t.Helper()
	cost, e := road.Nearest(r, hands, calls)
	if e != api.OK {
		t.Fatalf("Nearest(%v, %v, %v): error %d", r, hands, calls, e)
	}
	return cost
}

func potentialOf(t *testing.T, r api.Road, a, b []api.Spot) int {
	t.Helper()
	x, e := road.Potential(r, a, b)
	if e != api.OK {
		t.Fatalf("Potential(%v, %v, %v): error %d", r, a, b, e)
	}
	return x
}

// sequence is numbers that look as if they had no order, and are always the same.
type sequence uint64

func (r *sequence) below(n int) int {
	*r = *r*6364136223846793005 + 1442695040888963407
	return int(*r >> 33 % sequence(n))
}

// list returns count numbers below n.
func (r *sequence) list(count, n int) []int {
	var l []int
	for range count {
		l = append(l, r.below(n))
	}
	return l
}

// road returns one of n places, each at most so far from the one that it hangs on.
func (r *sequence) road(n, most int) api.Road {
	var numbers []int
	for i := 1; i < n; i++ {
		numbers = append(numbers, r.below(i), 1+r.below(most))
	}
	return roadOf(numbers...)
}

func (r *sequence) spots(c chart, count int) []api.Spot {
	var l []api.Spot
	for range count {
		l = append(l, c.spots[r.below(len(c.spots))])
	}
	return l
}

// row returns places in a row.
func row(n, length int) api.Road {
	var numbers []int
	for i := range n - 1 {
		numbers = append(numbers, i, length)
	}
	return roadOf(numbers...)
}

// star returns places around the place 0.
func star(n, length int) api.Road {
	var numbers []int
	for range n - 1 {
		numbers = append(numbers, 0, length)
	}
	return roadOf(numbers...)
}

// eachRoad gives roads of all sizes.
func eachRoad(f func(c chart)) {
	r := sequence(1)
	for n := 1; n <= api.MaxTree; n++ {
		for _, most := range []int{1, 2, 5, api.MaxRoad} {
			for range 4 {
				f(chartOf(r.road(n, most)))
			}
		}
		for _, length := range []int{1, 4, api.MaxRoad} {
			f(chartOf(row(n, length)))
			f(chartOf(star(n, length)))
		}
	}
}

// eachSmall gives all roads of at most four places with lengths up to 2.
func eachSmall(f func(c chart)) {
	roads := []api.Road{roadOf()}
	for len(roads) > 0 {
		r := roads[0]
		roads = roads[1:]
		f(chartOf(r))
		if n := len(r.On); n < 4 {
			for on := range n {
				for length := 1; length <= 2; length++ {
					roads = append(roads, api.Road{On: append(slices.Clone(r.On), on), Length: append(slices.Clone(r.Length), length)})
				}
			}
		}
	}
}

// eachHands gives all lists of up to three spots of a road.
func (c chart) eachHands(f func(hands []api.Spot)) {
	for k := 1; k <= api.MaxHands; k++ {
		for _, numbers := range plansOf(len(c.spots), k) {
			var hands []api.Spot
			for _, i := range numbers {
				hands = append(hands, c.spots[i])
			}
			f(hands)
		}
	}
}

// eachWay gives roads, farriers at any spots, and calls.
func eachWay(f func(c chart, hands []api.Spot, calls []int)) {
	r := sequence(2)
	eachRoad(func(c chart) {
		for k := 1; k <= api.MaxHands; k++ {
			for _, count := range []int{0, 1, 2, 5, api.MaxCalls} {
				f(c, r.spots(c, k), r.list(count, len(c.On)))
			}
			f(c, at(r.list(k, len(c.On))...), r.list(api.MaxCalls, len(c.On)))
		}
	})
}

// eachCase gives roads, farriers at places, and calls; at most this number of calls.
func eachCase(most int, f func(c chart, hands []api.Spot, calls []int)) {
	r := sequence(3)
	eachRoad(func(c chart) {
		for k := 1; k <= api.MaxHands; k++ {
			for _, count := range []int{0, 1, 3, most} {
				f(c, at(r.list(k, len(c.On))...), r.list(count, len(c.On)))
			}
		}
	})
}
