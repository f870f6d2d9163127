package lane_test

import (
	"math"
	"slices"
	"testing"

	"pritchel/api"
	"pritchel/lane"
)

func star() country {
	return country{4, lanes(0, 3, 2, 1, 3, 2, 2, 3, 2)}
}

// path returns places in a row, as far from each other as can be.
func path(n int) country {
	c := country{n: n}
	for i := 1; i < n; i++ {
		c.lanes = append(c.lanes, api.Lane{A: i, B: i - 1, Length: api.MaxLane})
	}
	return c
}

func TestExamples(t *testing.T) {
	ends := []int{0, 1, 2}
	if d := steinerOf(t, star(), ends); d != 6 {
		t.Errorf("Steiner = %d", d)
	}
	if d := nearOf(t, star(), ends); d != 8 {
		t.Errorf("Near = %d", d)
	}
	cuts := moatsOf(t, star(), ends)
	if !sameCuts(cuts, []api.Cut{cut(4, 0), cut(4, 1), cut(4, 2)}) {
		t.Errorf("Moats = %v", cuts)
	}
	if d, is := provesOf(t, star(), ends, cuts); d != 12 || !is {
		t.Errorf("Proves = %d, %t", d, is)
	}
	l := points(0, 0, 2, 0, 1, 1)
	if d := gridOf(t, l); d != 3 {
		t.Errorf("Grid = %d", d)
	}
	if d := treeOf(t, l); d != 4 {
		t.Errorf("Tree = %d", d)
	}
	if net := spanOf(t, country{3, lanes(0, 1, 1, 1, 2, 1, 2, 0, 1)}); !slices.Equal(net, []int{0, 1}) {
		t.Errorf("Span = %v", net)
	}
}

func TestDistance(t *testing.T) {
	check := func(c country) {
		t.Helper()
		for a := range c.n {
			for b, want := range c.distances(a) {
				if d := distanceOf(t, c, a, b); d != want {
					t.Errorf("Distance(%v, %d, %d) = %d, not %d", c, a, b, d, want)
				}
			}
		}
	}
	eachLarge(func(c country, ends []int) { check(c) })
	// A way of several lanes is shorter than the lane between both places, and of two lanes the shorter one counts.
	check(country{4, lanes(0, 3, 100, 0, 1, 7, 2, 1, 5, 1, 2, 6, 2, 3, 1)})
	check(country{2, lanes(1, 0, 9, 0, 1, 4, 0, 1, 5)})
	if d := distanceOf(t, path(10), 0, 9); d != 900 {
		t.Errorf("Distance = %d", d)
	}
}

func TestSpan(t *testing.T) {
	r := sequence(4)
	for n := 1; n <= api.MaxSpots; n++ {
		for more := range 10 {
			for _, most := range []int{1, 2, 3} {
				c := r.country(n, n-1+more, most)
				if net, want := spanOf(t, c), c.span(); !slices.Equal(net, want) {
					t.Errorf("Span(%v) = %v, not %v", c, net, want)
				}
				if len(c.lanes) > 9 {
					continue
				}
				if net, want := spanOf(t, c), c.shortest(upTo(n)); !slices.Equal(net, want) {
					t.Errorf("Span(%v) = %v, not %v", c, net, want)
				}
			}
		}
	}
	eachLarge(func(c country, ends []int) {
		if net, want := spanOf(t, c), c.span(); !slices.Equal(net, want) {
			t.Errorf("Span(%v) = %v, not %v", c, net, want)
		}
	})
}

func TestSteiner(t *testing.T) {
	each(func(c country, ends []int) {
		if d, want := steinerOf(t, c, ends), c.steiner(ends); d != want {
			t.Errorf("Steiner(%v, %v) = %d, not %d", c, ends, d, want)
		}
	})
	eachSmall(func(c country, ends []int) {
		if d, want := steinerOf(t, c, ends), c.length(c.shortest(ends)); d != want {
			t.Errorf("Steiner(%v, %v) = %d, not %d", c, ends, d, want)
		}
	})
	for _, c := range []struct {
		c    country
		ends []int
		want int
	}{
		{country{1, nil}, []int{0}, 0},
		{path(10), []int{3}, 0},
		{path(10), []int{0, 9}, 900},
		{country{5, lanes(0, 3, 2, 1, 3, 2, 3, 4, 1, 4, 2, 2, 0, 1, 4, 1, 2, 5)}, []int{0, 1, 2}, 7},
		{country{10, lanes(0, 6, 1, 1, 6, 1, 2, 7, 1, 3, 7, 1, 4, 8, 1, 5, 8, 1, 6, 9, 1, 7, 9, 1, 8, 9, 1, 0, 1, 2, 2, 3, 2, 4, 5, 2, 1, 2, 3, 3, 4, 3, 5, 0, 3)}, []int{0, 1, 2, 3, 4, 5}, 9},
	} {
		if d := steinerOf(t, c.c, c.ends); d != c.want {
			t.Errorf("Steiner(%v, %v) = %d, not %d", c.c, c.ends, d, c.want)
		}
	}
}

func TestNet(t *testing.T) {
	each(func(c country, ends []int) {
		net := netOf(t, c, ends)
		if !slices.IsSorted(net) || len(slices.Compact(slices.Clone(net))) != len(net) || len(net) > 0 && (net[0] < 0 || net[len(net)-1] >= len(c.lanes)) {
			t.Fatalf("Net(%v, %v) = %v", c, ends, net)
		}
		if d, want := c.length(net), steinerOf(t, c, ends); d != want || !c.isNet(ends, net) {
			t.Errorf("Net(%v, %v) = %v: %d long, not %d", c, ends, net, d, want)
		}
	})
}

func TestJoins(t *testing.T) {
	eachSmall(func(c country, ends []int) {
		for _, net := range sets(len(c.lanes)) {
			if d, is := joinsOf(t, c, ends, net); d != c.length(net) || is != c.isNet(ends, net) {
				t.Errorf("Joins(%v, %v, %v) = %d, %t", c, ends, net, d, is)
			}
		}
	})
	r := sequence(5)
	eachLarge(func(c country, ends []int) {
		for range 10 {
			count := len(c.lanes)
			net := r.ends(r.below(count+1), count)
			if d, is := joinsOf(t, c, ends, net); d != c.length(net) || is != c.isNet(ends, net) {
				t.Errorf("Joins(%v, %v, %v) = %d, %t", c, ends, net, d, is)
			}
		}
	})
	if d, is := joinsOf(t, star(), []int{0, 1}, []int{1, 2}); d != 4 || is {
		t.Errorf("Joins = %d, %t", d, is)
	}
}

func TestNear(t *testing.T) {
	each(func(c country, ends []int) {
		if d, want := nearOf(t, c, ends), c.near(ends); d != want {
			t.Errorf("Near(%v, %v) = %d, not %d", c, ends, d, want)
		}
	})
}

func TestProves(t *testing.T) {
	r := sequence(6)
	proofs := 0
	each(func(c country, ends []int) {
		for count := range 7 {
			cuts := r.cuts(c.n, count, 1+r.below(12), ends)
			want := 0
			if c.isProof(ends, cuts) {
				want = worth(cuts)
			}
			if d, is := provesOf(t, c, ends, cuts); d != want || is != c.isProof(ends, cuts) {
				t.Errorf("Proves(%v, %v, %v) = %d, %t", c, ends, cuts, d, is)
			}
			if want > 0 {
				proofs++
			}
		}
	})
	if proofs < 1000 {
		t.Errorf("only %d proofs were looked at", proofs)
	}
}

func TestProvesAtItsLimits(t *testing.T) {
	two := country{2, lanes(0, 1, 100)}
	ends := []int{0, 1}
	// A lane of several that are parallel may be too short; a cut of all places, or none, parts no ends.
	three := country{3, lanes(0, 1, 4, 1, 2, 3, 1, 0, 2)}
	for _, c := range []struct {
		c    country
		ends []int
		cuts []api.Cut
		want int
	}{
		{two, ends, nil, 0},
		{two, ends, []api.Cut{cut(200, 0)}, 200},
		{two, ends, []api.Cut{cut(200, 1)}, 200},
		{two, ends, []api.Cut{cut(100, 0), cut(99, 1), cut(1, 0)}, 200},
		{two, ends, slices.Repeat([]api.Cut{cut(1, 0)}, 64), 64},
		{two, ends, slices.Repeat([]api.Cut{cut(3, 1), cut(1, 0)}, 32), 128},
		{three, ends, []api.Cut{cut(4, 0)}, 4},
		{three, ends, []api.Cut{cut(3, 1, 2), cut(1, 0, 2)}, 4},
		{three, ends, []api.Cut{cut(4, 0, 2)}, 4},
		{two, []int{1}, nil, 0},
	} {
		if d, is := provesOf(t, c.c, c.ends, c.cuts); d != c.want || !is {
			t.Errorf("Proves(%v, %v, %v) = %d, %t", c.c, c.ends, c.cuts, d, is)
		}
	}
	for _, c := range []struct {
		c    country
		ends []int
		cuts []api.Cut
	}{
		{two, ends, []api.Cut{cut(201, 0)}},
		{two, ends, []api.Cut{cut(100, 0), cut(99, 1), cut(2, 0)}},
		{two, ends, slices.Repeat([]api.Cut{cut(1, 0)}, 65)},
		{two, ends, slices.Repeat([]api.Cut{cut(1, 0)}, 1000)},
		{two, ends, []api.Cut{cut(0, 0)}},
		{two, ends, []api.Cut{cut(-1, 0)}},
		{two, ends, []api.Cut{cut(-1, 0), cut(3, 1)}},
		{two, ends, []api.Cut{cut(0, 0), cut(3, 1)}},
		{two, ends, []api.Cut{cut(1000, 0)}},
		{two, ends, []api.Cut{cut(1001, 0), cut(-1000, 1)}},
		{two, ends, []api.Cut{cut(math.MaxInt, 0)}},
		{two, ends, []api.Cut{cut(math.MinInt, 0)}},
		{two, ends, []api.Cut{cut(math.MaxInt, 0), cut(math.MaxInt, 0), cut(12, 0)}},
		{two, ends, []api.Cut{cut(math.MinInt, 0), cut(math.MinInt, 0), cut(12, 0)}},
		{two, ends, []api.Cut{cut(1)}},
		{two, ends, []api.Cut{cut(1, 0, 1)}},
		{two, ends, []api.Cut{cut(1, 0), cut(1)}},
		{two, ends, []api.Cut{cut(1, 0), cut(1, 0, 1)}},
		{two, []int{1}, []api.Cut{cut(1, 0)}},
		{two, []int{1}, []api.Cut{cut(1, 1)}},
		{three, ends, []api.Cut{cut(5, 0)}},
		{three, ends, []api.Cut{cut(1, 2)}},
		{three, ends, []api.Cut{cut(1, 0, 1)}},
		{three, ends, []api.Cut{cut(3, 1, 2), cut(2, 0, 2)}},
	} {
		if d, is := provesOf(t, c.c, c.ends, c.cuts); d != 0 || is {
			t.Errorf("Proves(%v, %v, %v) = %d, %t", c.c, c.ends, c.cuts, d, is)
		}
	}
}

func TestMoats(t *testing.T) {
	each(func(c country, ends []int) {
		if cuts, want := moatsOf(t, c, ends), c.moats(ends); !sameCuts(cuts, want) {
			t.Errorf("Moats(%v, %v) = %v, not %v", c, ends, cuts, want)
		}
	})
}

func TestMoatsThatMeet(t *testing.T) {
	for _, c := range []struct {
		c    country
		ends []int
		want []api.Cut
	}{
		{country{1, nil}, []int{0}, nil},
		{star(), []int{2}, nil},
		{country{2, lanes(0, 1, 7)}, []int{0, 1}, []api.Cut{cut(7, 0), cut(7, 1)}},
		// The end 2 is at 1 after 2 steps; then both grow towards each other.
		{country{3, lanes(0, 1, 3, 1, 2, 1)}, []int{0, 2}, []api.Cut{cut(4, 0), cut(2, 2), cut(2, 1, 2)}},
		// A place that is in no part does not grow, but the part that has come to it does.
		{country{3, lanes(0, 1, 1, 1, 2, 100)}, []int{0, 1}, []api.Cut{cut(1, 0), cut(1, 1)}},
		{country{4, lanes(0, 3, 1, 3, 1, 5, 1, 2, 4)}, []int{0, 1, 2}, []api.Cut{cut(2, 0), cut(4, 1), cut(4, 2), cut(4, 0, 3), cut(2, 1, 2)}},
		// Several lanes are full at once, and several parts come in one step: those with lower places first, whichever lanes they come from.
		{country{5, lanes(4, 3, 1, 0, 1, 1, 1, 2, 3, 2, 3, 3)}, []int{0, 1, 3, 4}, []api.Cut{cut(1, 0), cut(1, 1), cut(1, 3), cut(1, 4), cut(5, 0, 1), cut(5, 3, 4)}},
		{country{4, lanes(3, 2, 1, 2, 1, 1, 1, 0, 1)}, []int{0, 1, 2, 3}, []api.Cut{cut(1, 0), cut(1, 1), cut(1, 2), cut(1, 3)}},
	} {
		if cuts := moatsOf(t, c.c, c.ends); !sameCuts(cuts, c.want) {
			t.Errorf("Moats(%v, %v) = %v, not %v", c.c, c.ends, cuts, c.want)
		}
	}
}

func TestGrid(t *testing.T) {
	eachPoints(func(l []api.Point) {
		if d, want := gridOf(t, l), grid(l); d != want {
			t.Errorf("Grid(%v) = %d, not %d", l, d, want)
		}
	})
	for _, c := range []struct {
		l    []api.Point
		want int
	}{
		{points(0, 0), 0},
		{points(100, 100), 0},
		{points(0, 100, 100, 0), 200},
		{points(0, 0, 100, 0, 0, 100, 100, 100), 300},
		{points(1, 0, 0, 1, 1, 2, 2, 1), 4},
		{points(50, 0, 0, 50, 100, 50, 50, 100), 200},
		{points(0, 0, 100, 0, 50, 0, 51, 0, 7, 0, 99, 0), 100},
		{points(0, 0, 2, 0, 1, 1, 0, 3, 2, 3, 1, 4), 8},
	} {
		if d := gridOf(t, c.l); d != c.want {
			t.Errorf("Grid(%v) = %d, not %d", c.l, d, c.want)
		}
	}
}

// All nets of lines of length 1 between nine points are looked at, then of longer ones.
func TestGridOfNine(t *testing.T) {
	nine := points(0, 0, 0, 1, 0, 2, 1, 0, 1, 1, 1, 2, 2, 0, 2, 1, 2, 2)
	for _, xs := range [][]int{{0, 1, 2}, {0, 3, 10}, {4, 99, 100}} {
		for _, ys := range [][]int{{0, 1, 2}, {1, 7, 9}} {
			c := country{n: 9}
			for i, p := range nine {
				for j, q := range nine[:i] {
					if apart(p, q) == 1 {
						c.lanes = append(c.lanes, api.Lane{A: i, B: j, Length: xs[p.X] - xs[q.X] + ys[p.Y] - ys[q.Y]})
					}
				}
			}
			least := leastNets(c)
			for _, s := range sets(9) {
				if len(s) < 1 || len(s) > api.MaxEnds {
					continue
				}
				var l []api.Point
				for _, i := range s {
					l = append(l, api.Point{X: xs[nine[i].X], Y: ys[nine[i].Y]})
				}
				if d, want := gridOf(t, l), least(s); d != want {
					t.Errorf("Grid(%v) = %d, not %d", l, d, want)
				}
			}
		}
	}
}

// leastNets returns what tells the least length of a net of a country for any ends, having looked at all sets of its lanes.
func leastNets(c country) func(ends []int) int {
	lengths := map[int]int{}
	for _, net := range sets(len(c.lanes)) {
		var places []int
		for _, i := range net {
			places = append(places, c.lanes[i].A, c.lanes[i].B)
		}
		if len(places) > 0 && !c.isNet(places, net) {
			continue
		}
		set := bitsOf(places)
		if d, is := lengths[set]; !is || c.length(net) < d {
			lengths[set] = c.length(net)
		}
	}
	return func(ends []int) int {
		least := -1
		for set, d := range lengths {
			if wanted := bitsOf(ends); (wanted&^set == 0 || len(ends) == 1) && (least < 0 || d < least) {
				least = d
			}
		}
		return least
	}
}

func bitsOf(places []int) int {
	set := 0
	for _, p := range places {
		set |= 1 << p
	}
	return set
}

func TestLines(t *testing.T) {
	eachPoints(func(l []api.Point) {
		net := linesOf(t, l)
		for _, line := range net {
			if min(line.A.X, line.A.Y, line.B.X, line.B.Y) < 0 || max(line.A.X, line.A.Y, line.B.X, line.B.Y) > api.MaxLane {
				t.Fatalf("Lines(%v) = %v", l, net)
			}
		}
		if d, is := covers(l, net); d != gridOf(t, l) || !is || len(net) > 200 {
			t.Errorf("Lines(%v) = %v: %d long, %t", l, net, d, is)
		}
	})
}

func TestCovers(t *testing.T) {
	r := sequence(7)
	nets := 0
	for count := 1; count <= api.MaxEnds; count++ {
		for _, most := range []int{2, 3, 4, 6, 20, api.MaxLane} {
			for range 100 {
				l, m := r.points(count, most), r.lines(r.below(12), most)
				want, is := covers(l, m)
				if d, covered := coversOf(t, l, m); d != want || covered != is {
					t.Errorf("Covers(%v, %v) = %d, %t, not %d, %t", l, m, d, covered, want, is)
				}
				if is && count > 1 {
					nets++
				}
			}
			l, m := r.points(count, most), r.lines(200, most)
			want, is := covers(l, m)
			if d, covered := coversOf(t, l, m); d != want || covered != is {
				t.Errorf("Covers(%v, %v) = %d, %t, not %d, %t", l, m, d, covered, want, is)
			}
		}
	}
	if nets < 200 {
		t.Errorf("only %d nets were looked at", nets)
	}
}

func TestCoversTouching(t *testing.T) {
	two := points(0, 0, 4, 4)
	for _, c := range []struct {
		l    []api.Point
		m    []api.Line
		want int
		is   bool
	}{
		{two, lines(0, 0, 4, 0, 4, 0, 4, 4), 8, true},
		{two, lines(4, 0, 0, 0, 4, 4, 4, 0), 8, true},
		{two, lines(0, 0, 3, 0, 4, 0, 4, 4), 7, false},
		{two, lines(0, 0, 4, 0, 4, 1, 4, 4), 7, false},
		{two, lines(0, 2, 4, 2, 0, 0, 0, 3, 4, 1, 4, 4), 10, true}, // crossings inside both lines
		{two, lines(0, 0, 0, 2, 0, 2, 4, 2, 4, 2, 4, 4), 8, true},
		{two, lines(0, 0, 0, 4, 0, 4, 0, 0, 0, 4, 4, 4), 12, true}, // the same line twice, both ways round
		{two, lines(0, 0, 0, 3, 0, 2, 0, 4, 0, 4, 4, 4), 9, true},  // lines that lie on one another
		{two, lines(0, 0, 0, 2, 0, 3, 0, 4, 0, 4, 4, 4), 7, false},
		{two, lines(0, 0, 0, 4), 4, false},
		{two, lines(0, 0, 4, 0, 0, 4, 4, 4), 8, false},
		{two, lines(0, 1, 4, 1, 4, 1, 4, 4), 7, false},
		{two, nil, 0, false},
		{two, lines(5, 0, 5, 100), 100, false},
		{points(0, 2, 4, 2), lines(0, 2, 4, 2), 4, true},
		{points(1, 2, 3, 2), lines(0, 2, 4, 2), 4, true}, // points inside a line
		{points(1, 2, 3, 2, 2, 5), lines(0, 2, 4, 2, 2, 0, 2, 9), 13, true},
		{points(1, 2, 3, 2, 2, 5), lines(0, 2, 4, 2, 2, 0, 2, 4), 8, false},
		{points(1, 2, 3, 2), lines(0, 2, 2, 2, 9, 9, 9, 8, 2, 2, 4, 2), 5, true}, // and a line that touches nothing
		{points(0, 0, 1, 0), lines(0, 0, 0, 9, 1, 0, 1, 9), 18, false},
		{points(7, 7), nil, 0, true}, // one point alone is joined by any lines
		{points(7, 7), lines(0, 0, 0, 3), 3, true},
		{points(7, 7), lines(0, 0, 0, 3, 9, 9, 10, 9), 4, true},
		{points(7, 7), lines(0, 0, 0, 3, 9, 9, 9, 9), 0, false},
		{points(7, 7), lines(7, 7, 7, 7), 0, false},
		{two, lines(0, 0, 4, 0, 4, 0, 4, 4, 4, 4, 4, 4), 0, false},
		{two, lines(0, 0, 4, 0, 4, 0, 4, 4, 1, 1, 2, 2), 0, false},
		{two, lines(0, 0, 4, 4), 0, false},
		{two, lines(4, 4, 0, 0), 0, false},
		{two, lines(0, 4, 4, 0), 0, false},
	} {
		if d, is := coversOf(t, c.l, c.m); d != c.want || is != c.is {
			t.Errorf("Covers(%v, %v) = %d, %t, not %d, %t", c.l, c.m, d, is, c.want, c.is)
		}
	}
}

func TestTree(t *testing.T) {
	eachPoints(func(l []api.Point) {
		if d, want := treeOf(t, l), pointTree(l); d != want {
			t.Errorf("Tree(%v) = %d, not %d", l, d, want)
		}
	})
	if d := treeOf(t, points(0, 0, 100, 100, 0, 100)); d != 200 {
		t.Errorf("Tree = %d", d)
	}
}

// countryErrors returns the errors of all functions of a country and ends.
func countryErrors(t *testing.T, c country, ends, net []int, cuts []api.Cut) map[string]api.Errno {
	t.Helper()
	far, e1 := lane.Distance(c.n, c.lanes, 0, 0)
	span, e2 := lane.Span(c.n, c.lanes)
	steiner, e3 := lane.Steiner(c.n, c.lanes, ends)
	shortest, e4 := lane.Net(c.n, c.lanes, ends)
	length, joins, e5 := lane.Joins(c.n, c.lanes, ends, net)
	near, e6 := lane.Near(c.n, c.lanes, ends)
	worth, proves, e7 := lane.Proves(c.n, c.lanes, ends, cuts)
	moats, e8 := lane.Moats(c.n, c.lanes, ends)
	all := map[string]api.Errno{"Distance": e1, "Span": e2, "Steiner": e3, "Net": e4, "Joins": e5, "Near": e6, "Proves": e7, "Moats": e8}
	results := map[string]bool{
		"Distance": far != 0, "Span": len(span) > 0, "Steiner": steiner != 0, "Net": len(shortest) > 0, "Joins": length != 0 || joins,
		"Near": near != 0, "Proves": worth != 0 || proves, "Moats": len(moats) > 0,
	}
	for name, has := range results {
		if has && all[name] != api.OK {
			t.Errorf("%s(%v, %v, %v, %v) has a result with error %d", name, c, ends, net, cuts, all[name])
		}
	}
	return all
}

// pointErrors returns the errors of all functions of points.
func pointErrors(t *testing.T, l []api.Point, m []api.Line) map[string]api.Errno {
	t.Helper()
	length, e1 := lane.Grid(l)
	net, e2 := lane.Lines(l)
	sum, covers, e3 := lane.Covers(l, m)
	tree, e4 := lane.Tree(l)
	all := map[string]api.Errno{"Grid": e1, "Lines": e2, "Covers": e3, "Tree": e4}
	results := map[string]bool{"Grid": length != 0, "Lines": len(net) > 0, "Covers": sum != 0 || covers, "Tree": tree != 0}
	for name, has := range results {
		if has && all[name] != api.OK {
			t.Errorf("%s(%v, %v) has a result with error %d", name, l, m, all[name])
		}
	}
	return all
}

// expect compares errors with the one that all functions should return, but for those that should return none.
func expect(t *testing.T, what any, all map[string]api.Errno, want api.Errno, fine ...string) {
	t.Helper()
	for name, e := range all {
		if slices.Contains(fine, name) {
			if e != api.OK {
				t.Errorf("%s(%.200v): error %d", name, what, e)
			}
		} else if e != want {
			t.Errorf("%s(%.200v): error %d, not %d", name, what, e, want)
		}
	}
}

func badCountries() []country {
	many := slices.Repeat(lanes(0, 1, 1), 31)
	return []country{
		{0, nil}, {-1, nil}, {11, nil}, {math.MinInt, nil}, {math.MaxInt, nil}, {0, lanes(0, 1, 1)}, {-2, lanes(0, 1, 1)},
		{11, append(path(10).lanes, lanes(9, 10, 1)...)}, {2, nil}, {10, nil}, {3, lanes(0, 1, 1)}, {3, lanes(2, 1, 1)}, {4, lanes(0, 1, 1, 2, 3, 1)},
		{4, lanes(0, 1, 1, 1, 2, 1, 2, 0, 1)}, {10, path(9).lanes}, {6, lanes(0, 1, 1, 1, 2, 1, 2, 0, 1, 3, 4, 1, 4, 5, 1, 5, 3, 1)}, {2, many},
		{1, lanes(0, 0, 1)}, {1, lanes(0, 1, 1)}, {2, lanes(0, 0, 1)}, {2, lanes(1, 1, 1)}, {2, lanes(0, 1, 1, 1, 1, 1)}, {3, lanes(0, 1, 1, 1, 2, 1, 2, 2, 1)},
		{2, lanes(0, 2, 1)}, {2, lanes(2, 0, 1)}, {2, lanes(-1, 1, 1)}, {2, lanes(1, -1, 1)}, {2, lanes(0, 1, 1, 0, 2, 1)}, {2, lanes(0, 1, 1, -1, 0, 1)},
		{2, lanes(0, math.MaxInt, 1)}, {2, lanes(math.MinInt, 1, 1)}, {2, lanes(math.MaxInt, math.MinInt, 1)}, {2, lanes(0, 1, 1, 0, 10, 1)},
		{2, lanes(0, 1, 0)}, {2, lanes(0, 1, -1)}, {2, lanes(0, 1, 101)}, {2, lanes(0, 1, math.MaxInt)}, {2, lanes(0, 1, math.MinInt)},
		{2, lanes(0, 1, 1, 1, 0, 0)}, {2, lanes(0, 1, 1, 1, 0, 101)}, {2, append(many[:29:29], lanes(0, 1, 101, 0, 1, 1)...)},
	}
}

func badEnds() [][]int {
	return [][]int{
		nil, {}, {-1}, {10}, {11}, {math.MaxInt}, {math.MinInt}, {0, 0}, {1, 0}, {0, 1, 1}, {0, 2, 1}, {-1, 0}, {9, 10}, {0, math.MaxInt}, {math.MinInt, 0},
		{0, 1, 2, 3, 4, 5, 6}, {0, 1, 2, 3, 4, 5, 6, 7, 8, 9}, {0, 1, 2, 3, 4, 5, 5}, {3, 4, 5, 0}, slices.Repeat([]int{0}, 1000), upTo(1000),
	}
}

func badCuts() [][]api.Cut {
	return [][]api.Cut{
		{cut(1, -1)}, {cut(1, 10)}, {cut(1, 0, 0)}, {cut(1, 1, 0)}, {cut(1, 0, 10)}, {cut(1, -1, 0)}, {cut(1, 0), cut(1, 2, 1)}, {cut(1, 2, 1), cut(1, 0)},
		{cut(0, 1, 1)}, {cut(-5, 1, 1)}, {cut(1), cut(1, 5, 5)}, {cut(1, math.MaxInt)}, {cut(1, math.MinInt)}, {cut(1, upTo(11)...)}, {cut(1, upTo(1000)...)},
		append(slices.Repeat([]api.Cut{cut(1, 0)}, 64), cut(1, 1, 1)), append(slices.Repeat([]api.Cut{cut(1, 0)}, 1000), cut(1, -1)), {cut(math.MaxInt, 0), cut(math.MaxInt, 0, 0)},
	}
}

func badNets() [][]int {
	return [][]int{{-1}, {9}, {0, 0}, {1, 0}, {0, 1, 2, 2}, {0, 9}, {-1, 0}, {math.MaxInt}, {math.MinInt}, {0, math.MaxInt}, {8, 7}, upTo(10), upTo(1000), slices.Repeat([]int{3}, 31), {0, 1, 2, 3, 4, 5, 6, 7, 8, 9}}
}

func TestNoCountry(t *testing.T) {
	for _, c := range badCountries() {
		for _, ends := range append(badEnds(), []int{0}, []int{0, 1}) {
			expect(t, c, countryErrors(t, c, ends, nil, nil), api.ErrArg)
			expect(t, c, countryErrors(t, c, ends, []int{0, 0}, []api.Cut{cut(1, 1, 0)}), api.ErrArg)
		}
		for _, a := range []int{-1, 0, 1, math.MaxInt} {
			if d, e := lane.Distance(c.n, c.lanes, a, 0); d != 0 || e != api.ErrArg {
				t.Errorf("Distance(%v, %d, 0) = %d, %d", c, a, d, e)
			}
		}
	}
	for _, c := range []country{{1, nil}, {2, lanes(0, 1, 1)}, {2, lanes(1, 0, 100)}, path(10), {2, slices.Repeat(lanes(0, 1, 1), 30)}, {2, slices.Repeat(lanes(0, 1, 1, 1, 0, 100), 15)}, sparse()} {
		expect(t, c, countryErrors(t, c, []int{0}, nil, nil), api.OK)
		expect(t, c, countryErrors(t, c, []int{c.n - 1}, upTo(len(c.lanes)), []api.Cut{cut(1, upTo(c.n)...)}), api.OK)
	}
}

// sparse returns a country in which many lanes lead from the last place on.
func sparse() country {
	c := country{n: 10}
	for i := range 9 {
		c.lanes = append(c.lanes, lanes(9, i, 100, i, 9, 1, 9, i, 50)...)
	}
	return c
}

func TestNoEnds(t *testing.T) {
	for _, ends := range badEnds() {
		expect(t, ends, countryErrors(t, path(10), ends, nil, nil), api.ErrArg, "Distance", "Span")
		for _, net := range badNets() {
			expect(t, ends, countryErrors(t, path(10), ends, net, badCuts()[0]), api.ErrArg, "Distance", "Span")
		}
		for _, cuts := range badCuts() {
			expect(t, ends, countryErrors(t, path(10), ends, nil, cuts), api.ErrArg, "Distance", "Span")
		}
	}
	for _, ends := range [][]int{{0}, {9}, {0, 9}, {0, 1, 2, 3, 4, 5}, {4, 5, 6, 7, 8, 9}} {
		expect(t, ends, countryErrors(t, path(10), ends, nil, nil), api.OK)
	}
	expect(t, "one place", countryErrors(t, country{1, nil}, []int{1}, nil, nil), api.ErrArg, "Distance", "Span")
	expect(t, "one place", countryErrors(t, country{1, nil}, []int{0, 1}, nil, nil), api.ErrArg, "Distance", "Span")
}

func TestNoPlaces(t *testing.T) {
	for _, x := range []int{-1, 10, 11, 30, math.MinInt, math.MaxInt} {
		for _, y := range []int{0, 9, x} {
			for _, p := range [][2]int{{x, y}, {y, x}} {
				if d, e := lane.Distance(10, path(10).lanes, p[0], p[1]); d != 0 || e != api.ErrArg {
					t.Errorf("Distance(%d, %d) = %d, %d", p[0], p[1], d, e)
				}
			}
		}
	}
}

func TestMalformedNets(t *testing.T) {
	others := []string{"Distance", "Span", "Steiner", "Net", "Near", "Proves", "Moats"}
	for _, net := range badNets() {
		expect(t, net, countryErrors(t, path(10), []int{0, 9}, net, nil), api.ErrForm, others...)
	}
	for _, net := range [][]int{{0}, {1}, {0, 1, 2}, upTo(31)} {
		expect(t, net, countryErrors(t, country{1, nil}, []int{0}, net, nil), api.ErrForm, others...)
	}
}

func TestMalformedCuts(t *testing.T) {
	others := []string{"Distance", "Span", "Steiner", "Net", "Joins", "Near", "Moats"}
	for _, cuts := range badCuts() {
		for _, ends := range [][]int{{0, 1}, {0}, {5, 6}} {
			expect(t, cuts, countryErrors(t, path(10), ends, nil, cuts), api.ErrForm, others...)
		}
	}
}

func TestNoPoints(t *testing.T) {
	for _, l := range [][]api.Point{
		nil, {}, points(-1, 0), points(0, -1), points(101, 0), points(0, 101), points(-1, 101), points(math.MaxInt, 0), points(0, math.MinInt), points(math.MinInt, math.MaxInt),
		points(0, 0, 0, 0), points(1, 2, 3, 4, 1, 2), points(0, 0, 1, 1, 1, 1), points(0, 0, 1, 101), points(0, 0, 1, 1, -1, 0), points(0, 1, 1, 0, math.MaxInt, math.MaxInt),
		points(0, 0, 1, 0, 2, 0, 3, 0, 4, 0, 5, 0, 6, 0), points(0, 0, 1, 0, 2, 0, 3, 0, 4, 0, 5, 0, 5, 0), slices.Repeat(points(0, 0), 1000),
	} {
		for _, m := range [][]api.Line{nil, lines(0, 0, 1, 0), lines(0, 0, 0, 0), lines(0, 0, -1, 0), slices.Repeat(lines(0, 0, 1, 0), 201)} {
			expect(t, l, pointErrors(t, l, m), api.ErrArg)
		}
	}
	for _, l := range [][]api.Point{points(0, 0), points(100, 100), points(0, 1, 1, 0), points(0, 100, 100, 0), points(5, 5, 4, 5, 3, 5, 2, 5, 1, 5, 0, 5)} {
		expect(t, l, pointErrors(t, l, nil), api.OK)
	}
}

func TestMalformedLines(t *testing.T) {
	others := []string{"Grid", "Lines", "Tree"}
	line := lines(0, 0, 1, 0)
	for _, m := range [][]api.Line{
		lines(-1, 0, 1, 0), lines(0, -1, 0, 1), lines(0, 0, -1, 0), lines(0, 0, 0, -1), lines(101, 0, 0, 0), lines(0, 101, 0, 0), lines(0, 0, 101, 0), lines(0, 0, 0, 101),
		lines(0, 0, 1, 0, -1, 0, 1, 0), lines(0, 0, 1, 1, 0, 0, 101, 1), lines(0, 0, 0, 0, 101, 101, 101, 101), lines(-1, -1, 2, 2),
		lines(0, 0, math.MaxInt, 0), lines(0, 0, 0, math.MinInt), lines(math.MinInt, 0, math.MaxInt, 0), lines(math.MaxInt, math.MaxInt, math.MaxInt, math.MaxInt),
		slices.Repeat(line, 201), slices.Repeat(line, 1000), slices.Repeat(lines(0, 0, 0, 0), 201), append(slices.Repeat(line, 199), lines(0, 0, 0, 101)...),
	} {
		for _, l := range [][]api.Point{points(0, 0), points(0, 0, 1, 0)} {
			expect(t, m, pointErrors(t, l, m), api.ErrForm, others...)
		}
	}
	for _, c := range []struct {
		m    []api.Line
		want int
		is   bool
	}{{slices.Repeat(line, 200), 200, true}, {lines(0, 0, 100, 0), 100, true}, {lines(0, 0, 0, 100), 100, false}, {append(slices.Repeat(line, 199), lines(0, 0, 0, 0)...), 0, false}} {
		if d, is := coversOf(t, points(0, 0, 1, 0), c.m); d != c.want || is != c.is {
			t.Errorf("Covers(%.99v) = %d, %t", c.m, d, is)
		}
	}
}
