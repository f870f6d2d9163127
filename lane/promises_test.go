package lane_test

import (
	"slices"
	"strconv"
	"testing"

	"pritchel/api"
	"pritchel/lane"
)

// N1
func TestNoNetIsShorter(t *testing.T) {
	each(func(c country, ends []int) {
		least := steinerOf(t, c, ends)
		net := netOf(t, c, ends)
		if d, is := joinsOf(t, c, ends, net); d != least || !is {
			t.Errorf("Net(%v, %v) = %v: %d long, %t, not %d", c, ends, net, d, is, least)
		}
	})
	eachSmall(func(c country, ends []int) {
		least := steinerOf(t, c, ends)
		for _, net := range sets(len(c.lanes)) {
			if d, is := joinsOf(t, c, ends, net); is && d < least {
				t.Errorf("Steiner(%v, %v) = %d, but %v is %d long", c, ends, least, net, d)
			}
		}
	})
	// Of a large net lanes are left out, as long as it stays one.
	r := sequence(8)
	eachLarge(func(c country, ends []int) {
		net := upTo(len(c.lanes))
		for _, i := range r.numbers(len(net), len(net)) {
			fewer := slices.DeleteFunc(slices.Clone(net), func(j int) bool { return i == j })
			if _, is := joinsOf(t, c, ends, fewer); is {
				net = fewer
			}
		}
		if d, least := c.length(net), steinerOf(t, c, ends); d < least {
			t.Errorf("Steiner(%v, %v) = %d, but %v is %d long", c, ends, least, net, d)
		}
	})
}

// N2
func TestNearIsNear(t *testing.T) {
	each(func(c country, ends []int) {
		k, least, near := len(ends), steinerOf(t, c, ends), nearOf(t, c, ends)
		if least > near || k*near > (2*k-2)*least {
			t.Errorf("Steiner(%v, %v) = %d, Near %d", c, ends, least, near)
		}
	})
	// A star comes as far as that.
	for k := 2; k <= api.MaxEnds; k++ {
		star := country{n: k + 1}
		for i := range k {
			star.lanes = append(star.lanes, api.Lane{A: i, B: k, Length: 7})
		}
		if least, near := steinerOf(t, star, upTo(k)), nearOf(t, star, upTo(k)); least != 7*k || near != 14*(k-1) {
			t.Errorf("a star of %d: Steiner %d, Near %d", k, least, near)
		}
	}
}

// N3
func TestEnds(t *testing.T) {
	each(func(c country, ends []int) {
		least := steinerOf(t, c, ends)
		if len(ends) == 1 && least != 0 {
			t.Errorf("Steiner(%v, %v) = %d", c, ends, least)
		}
		if len(ends) == 2 && least != distanceOf(t, c, ends[0], ends[1]) {
			t.Errorf("Steiner(%v, %v) = %d, Distance %d", c, ends, least, distanceOf(t, c, ends[0], ends[1]))
		}
		if span := spanOf(t, c); len(ends) == c.n && least != c.length(span) {
			t.Errorf("Steiner(%v, %v) = %d, Span %v", c, ends, least, span)
		}
		for i := range c.n {
			more := append(slices.Clone(ends), i)
			slices.Sort(more)
			if slices.Contains(ends, i) || len(more) > api.MaxEnds {
				continue
			}
			if d := steinerOf(t, c, more); d < least {
				t.Errorf("Steiner(%v, %v) = %d, but %d of %v", c, ends, least, d, more)
			}
		}
	})
}

// N4
func TestNoProofIsWorthMore(t *testing.T) {
	r := sequence(9)
	each(func(c country, ends []int) {
		least := steinerOf(t, c, ends)
		cuts := moatsOf(t, c, ends)
		d, is := provesOf(t, c, ends, cuts)
		if !is || d != worth(cuts) || d > 2*least || nearOf(t, c, ends) > d {
			t.Errorf("Moats(%v, %v) = %v: worth %d, %t, Steiner %d, Near %d", c, ends, cuts, d, is, least, nearOf(t, c, ends))
		}
		for range 5 {
			if cuts := r.greedyCuts(t, c, ends); worth(cuts) > 2*least {
				t.Errorf("Steiner(%v, %v) = %d, but %v is a proof", c, ends, least, cuts)
			}
		}
	})
}

// greedyCuts returns a proof to which cuts were added that weigh as much as can be.
func (r *sequence) greedyCuts(t *testing.T, c country, ends []int) []api.Cut {
	t.Helper()
	var cuts []api.Cut
	for _, next := range r.cuts(c.n, 12, 1, ends) {
		next.Weight = 2 * api.MaxLane
		for next.Weight > 0 {
			if _, is := provesOf(t, c, ends, append(slices.Clone(cuts), next)); is {
				cuts = append(cuts, next)
				break
			}
			next.Weight /= 2
		}
	}
	return cuts
}

// N5
func TestHanan(t *testing.T) {
	r := sequence(10)
	count := 0
	eachPoints(func(l []api.Point) {
		places := crossings(l)
		if len(places) > api.MaxSpots {
			return
		}
		count++
		c, ends := r.netOf(places, l)
		if d, least := gridOf(t, l), steinerOf(t, c, ends); d != least {
			t.Errorf("Grid(%v) = %d, Steiner(%v, %v) = %d", l, d, c, ends, least)
		}
	})
	if count < 100 {
		t.Errorf("only %d nets of crossings were looked at", count)
	}
}

// netOf returns the country of crossings, in any order, and the points as its ends.
func (r *sequence) netOf(places, l []api.Point) (country, []int) {
	c := country{n: len(places)}
	var ends []int
	order := r.numbers(c.n, c.n)
	for i, p := range places {
		if slices.Contains(l, p) {
			ends = append(ends, order[i])
		}
		for j, q := range places[:i] {
			if (p.X == q.X || p.Y == q.Y) && !slices.ContainsFunc(places, func(m api.Point) bool { return m != p && m != q && apart(p, m)+apart(m, q) == apart(p, q) }) {
				c.lanes = append(c.lanes, api.Lane{A: order[i], B: order[j], Length: apart(p, q)})
			}
		}
	}
	slices.Sort(ends)
	return c, ends
}

// N6
func TestHwang(t *testing.T) {
	eachPoints(func(l []api.Point) {
		if d, tree := gridOf(t, l), treeOf(t, l); tree < d || 2*tree > 3*d {
			t.Errorf("Grid(%v) = %d, Tree %d", l, d, tree)
		}
	})
	// Four points around a crossing come as far as that.
	l := points(50, 0, 0, 50, 100, 50, 50, 100)
	if d, tree := gridOf(t, l), treeOf(t, l); d != 200 || tree != 300 {
		t.Errorf("Grid(%v) = %d, Tree %d", l, d, tree)
	}
}

// N7
func TestCoversLines(t *testing.T) {
	eachPoints(func(l []api.Point) {
		net := linesOf(t, l)
		if d, is := coversOf(t, l, net); d != gridOf(t, l) || !is {
			t.Errorf("Lines(%v) = %v: %d long, %t, Grid %d", l, net, d, is, gridOf(t, l))
		}
	})
	r := sequence(11)
	for range 2000 {
		l, m := r.points(1+r.below(4), 4), r.lines(r.below(9), 4)
		if d, is := coversOf(t, l, m); is && d < gridOf(t, l) {
			t.Errorf("Grid(%v) = %d, but %v is %d long", l, gridOf(t, l), m, d)
		}
	}
}

// N8
func TestMoved(t *testing.T) {
	changes := []func(p api.Point) api.Point{
		func(p api.Point) api.Point { return api.Point{X: api.MaxLane - p.X, Y: p.Y} },
		func(p api.Point) api.Point { return api.Point{X: p.X, Y: api.MaxLane - p.Y} },
		func(p api.Point) api.Point { return api.Point{X: p.Y, Y: p.X} },
		func(p api.Point) api.Point { return api.Point{X: api.MaxLane - p.Y, Y: p.X} },
		func(p api.Point) api.Point { return api.Point{X: api.MaxLane - p.X, Y: api.MaxLane - p.Y} },
	}
	eachPoints(func(l []api.Point) {
		d, tree := gridOf(t, l), treeOf(t, l)
		for i, change := range changes {
			var moved []api.Point
			for _, p := range l {
				moved = append(moved, change(p))
			}
			if x, y := gridOf(t, moved), treeOf(t, moved); x != d || y != tree {
				t.Errorf("Grid(%v) = %d, Tree %d, but %d and %d after change %d", l, d, tree, x, y, i)
			}
		}
		backwards := slices.Clone(l)
		slices.Reverse(backwards)
		if x, y := gridOf(t, backwards), treeOf(t, backwards); x != d || y != tree {
			t.Errorf("Grid(%v) = %d, Tree %d, but %d and %d backwards", l, d, tree, x, y)
		}
	})
}

// N8
func TestMorePoints(t *testing.T) {
	r := sequence(12)
	eachPoints(func(l []api.Point) {
		d := gridOf(t, l)
		var xs, ys []int
		for _, p := range l {
			xs, ys = append(xs, p.X), append(ys, p.Y)
		}
		if d < slices.Max(xs)-slices.Min(xs)+slices.Max(ys)-slices.Min(ys) {
			t.Errorf("Grid(%v) = %d", l, d)
		}
		if len(l) == api.MaxEnds {
			return
		}
		for _, p := range append(r.points(3, api.MaxLane), r.points(3, 4)...) {
			if more := append(slices.Clone(l), p); !slices.Contains(l, p) && gridOf(t, more) < d {
				t.Errorf("Grid(%v) = %d, but %d with %v", l, d, gridOf(t, more), p)
			}
		}
	})
}

// given is arguments of all functions.
type given struct {
	c         country
	ends, net []int
	cuts      []api.Cut
	points    []api.Point
	lines     []api.Line
}

func (r *sequence) given() given {
	n := 1 + r.below(api.MaxSpots)
	c := r.country(n, r.below(api.MaxLanes+1), 1+r.below(9))
	ends := r.ends(1+r.below(api.MaxEnds), n)
	net := r.ends(r.below(len(c.lanes)+1), len(c.lanes))
	return given{c, ends, net, r.cuts(n, r.below(4), 3, ends), r.points(1+r.below(api.MaxEnds), 5), r.lines(r.below(9), 5)}
}

// results returns all results.
func (g given) results(t *testing.T) []int {
	t.Helper()
	l := []int{steinerOf(t, g.c, g.ends), nearOf(t, g.c, g.ends), gridOf(t, g.points), treeOf(t, g.points)}
	l = slices.Concat(l, spanOf(t, g.c), netOf(t, g.c, g.ends))
	for _, c := range moatsOf(t, g.c, g.ends) {
		l = append(append(l, c.Weight), c.Places...)
	}
	for _, m := range linesOf(t, g.points) {
		l = append(l, m.A.X, m.A.Y, m.B.X, m.B.Y)
	}
	for i := range g.c.n {
		l = append(l, distanceOf(t, g.c, 0, i))
	}
	length, joins := joinsOf(t, g.c, g.ends, g.net)
	worth, proves := provesOf(t, g.c, g.ends, g.cuts)
	sum, covers := coversOf(t, g.points, g.lines)
	l = append(l, length, worth, sum)
	for _, is := range []bool{joins, proves, covers} {
		if is {
			l = append(l, 1)
		} else {
			l = append(l, 0)
		}
	}
	return l
}

// clone returns the same in new memory, in which more comes behind the end of everything.
func (g given) clone() (given, given) {
	long := given{
		country{g.c.n, append(slices.Clone(g.c.lanes), lanes(0, 0, -1)...)}, append(slices.Clone(g.ends), -1), append(slices.Clone(g.net), -1),
		append(cloneCuts(g.cuts), cut(-1, -1)), append(slices.Clone(g.points), g.points...), append(slices.Clone(g.lines), lines(0, 0, 1, 1)...),
	}
	for i, c := range long.cuts {
		long.cuts[i].Places = append(c.Places, -1)[:len(c.Places)]
	}
	return given{
		country{g.c.n, long.c.lanes[:len(g.c.lanes)]}, long.ends[:len(g.ends)], long.net[:len(g.net)], long.cuts[:len(g.cuts)], long.points[:len(g.points)], long.lines[:len(g.lines)],
	}, long
}

func cloneCuts(l []api.Cut) []api.Cut {
	var m []api.Cut
	for _, c := range l {
		m = append(m, api.Cut{Places: slices.Clone(c.Places), Weight: c.Weight})
	}
	return m
}

// text returns everything that is there, also behind the ends of the places of cuts.
func (g given) text() string {
	s := strconv.Itoa(g.c.n)
	add := func(l ...int) {
		for _, x := range l {
			s += " " + strconv.Itoa(x)
		}
		s += ";"
	}
	for _, l := range g.c.lanes {
		add(l.A, l.B, l.Length)
	}
	add(g.ends...)
	add(g.net...)
	for _, c := range g.cuts {
		add(append([]int{c.Weight}, c.Places[:cap(c.Places)]...)...)
	}
	for _, p := range g.points {
		add(p.X, p.Y)
	}
	for _, l := range g.lines {
		add(l.A.X, l.A.Y, l.B.X, l.B.Y)
	}
	return s
}

// R5 and R6: arguments stay as they are, also behind their ends, and results depend on them alone.
func TestArguments(t *testing.T) {
	r := sequence(13)
	for range 300 {
		g := r.given()
		want := g.results(t)
		same, long := g.clone()
		before := long.text()
		if l := same.results(t); !slices.Equal(l, want) {
			t.Errorf("%v: %v, then %v", g, want, l)
		}
		if after := long.text(); after != before {
			t.Fatalf("arguments were changed from %s to %s", before, after)
		}
		if l := g.results(t); !slices.Equal(l, want) {
			t.Errorf("%v: %v, then %v", g, want, l)
		}
	}
}

// R5: what is done to a result is seen in no argument, in no other result, and in no other part of it.
func TestResultsApart(t *testing.T) {
	r := sequence(14)
	for range 100 {
		g := r.given()
		before, want := g.text(), g.results(t)
		for _, l := range [][]int{spanOf(t, g.c), netOf(t, g.c, g.ends)} {
			clear(l[:cap(l)])
		}
		net := linesOf(t, g.points)
		clear(net[:cap(net)])
		cuts := moatsOf(t, g.c, g.ends)
		for i, c := range cuts {
			clear(c.Places[:cap(c.Places)])
			if rest := cuts[i+1:]; !sameCuts(rest, moatsOf(t, g.c, g.ends)[i+1:]) {
				t.Errorf("cuts of %v share memory", g)
			}
		}
		if g.text() != before {
			t.Fatalf("arguments were changed from %s to %s", before, g.text())
		}
		if l := g.results(t); !slices.Equal(l, want) {
			t.Errorf("%v: %v, then %v", g, want, l)
		}
	}
}

// R4
func TestNilAndEmpty(t *testing.T) {
	for _, l := range [][]api.Lane{nil, {}, lanes(0, 1, 1)[:0]} {
		one := country{1, l}
		if distanceOf(t, one, 0, 0)+steinerOf(t, one, []int{0})+nearOf(t, one, []int{0}) != 0 {
			t.Errorf("one place: %d", distanceOf(t, one, 0, 0))
		}
		if len(spanOf(t, one))+len(netOf(t, one, []int{0}))+len(moatsOf(t, one, []int{0})) > 0 {
			t.Errorf("one place: %v", spanOf(t, one))
		}
		if _, e := lane.Span(2, l); e != api.ErrArg {
			t.Errorf("Span: error %d", e)
		}
	}
	for _, l := range [][]int{nil, {}, {5}, {5, 6}} {
		l := l[:0]
		if d, is := joinsOf(t, star(), []int{0}, l); d != 0 || !is {
			t.Errorf("Joins = %d, %t", d, is)
		}
		if d, is := joinsOf(t, star(), []int{0, 1}, l); d != 0 || is {
			t.Errorf("Joins = %d, %t", d, is)
		}
		if d, is := provesOf(t, star(), []int{0, 1}, []api.Cut{{Places: l, Weight: 1}}); d != 0 || is {
			t.Errorf("Proves = %d, %t", d, is)
		}
		if _, e := lane.Net(4, star().lanes, l); e != api.ErrArg {
			t.Errorf("Net: error %d", e)
		}
	}
	for _, l := range [][]api.Cut{nil, {}, {cut(1, 0)}} {
		if d, is := provesOf(t, star(), []int{0, 1}, l[:0]); d != 0 || !is {
			t.Errorf("Proves = %d, %t", d, is)
		}
	}
	for _, l := range [][]api.Line{nil, {}, lines(0, 0, 0, 1)} {
		if d, is := coversOf(t, points(3, 3), l[:0]); d != 0 || !is {
			t.Errorf("Covers = %d, %t", d, is)
		}
		if d, is := coversOf(t, points(0, 0, 0, 1), l[:0]); d != 0 || is {
			t.Errorf("Covers = %d, %t", d, is)
		}
	}
	for _, l := range [][]api.Point{nil, {}, points(1, 1)} {
		if _, e := lane.Grid(l[:0]); e != api.ErrArg {
			t.Errorf("Grid: error %d", e)
		}
	}
	if l := linesOf(t, points(3, 3)); len(l) > 0 {
		t.Errorf("Lines = %v", l)
	}
}
