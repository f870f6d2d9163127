package lane

import (
	"slices"

	"pritchel/api"
)

// maxLines is how many lines a grid net may have.
const maxLines = 200

func arePoints(points []api.Point) bool {
	if len(points) < 1 || len(points) > api.MaxEnds {
		return false
	}
	for i, p := range points {
		if !isPlaced(p) || slices.Contains(points[:i], p) {
			return false
		}
	}
	return true
}

func isPlaced(p api.Point) bool {
	return min(p.X, p.Y) >= 0 && max(p.X, p.Y) <= api.MaxLane
}

// apart returns the grid distance of two points.
func apart(p, q api.Point) int {
	return max(p.X-q.X, q.X-p.X) + max(p.Y-q.Y, q.Y-p.Y)
}

// grid is Hanan's: the country of all crossings of the lines along both axes through some points.
type grid struct {
	country
	crossings []api.Point
}

func gridOf(points []api.Point) grid {
	xs, ys := coordinates(points)
	var g grid
	for _, x := range xs {
		for _, y := range ys {
			g.crossings = append(g.crossings, api.Point{X: x, Y: y})
		}
	}
	var lanes []api.Lane
	for i := range g.crossings {
		if (i+1)%len(ys) > 0 {
			lanes = append(lanes, g.lane(i, i+1))
		}
		if i+len(ys) < len(g.crossings) {
			lanes = append(lanes, g.lane(i, i+len(ys)))
		}
	}
	g.country = newCountry(len(g.crossings), lanes)
	return g
}

// coordinates returns those of points along both axes, rising.
func coordinates(points []api.Point) (xs, ys []int) {
	for _, p := range points {
		xs = append(xs, p.X)
		ys = append(ys, p.Y)
	}
	slices.Sort(xs)
	slices.Sort(ys)
	return slices.Compact(xs), slices.Compact(ys)
}

func (g grid) lane(a, b int) api.Lane {
	return api.Lane{A: a, B: b, Length: apart(g.crossings[a], g.crossings[b])}
}

func (g grid) web(points []api.Point) web {
	var ends []int
	for _, p := range points {
		ends = append(ends, slices.Index(g.crossings, p))
	}
	return g.country.web(ends)
}

func (g grid) lines(points []api.Point) []api.Line {
	var lines []api.Line
	for _, i := range g.web(points).net() {
		l := g.lanes[i]
		lines = append(lines, api.Line{A: g.crossings[l.A], B: g.crossings[l.B]})
	}
	return lines
}

// areStraight reports whether all lines are between different points, along an axis.
func areStraight(lines []api.Line) bool {
	for _, l := range lines {
		if (l.A.X == l.B.X) == (l.A.Y == l.B.Y) {
			return false
		}
	}
	return true
}

func lengthOf(lines []api.Line) int {
	sum := 0
	for _, l := range lines {
		sum += apart(l.A, l.B)
	}
	return sum
}

// cover reports whether lines join points. A point is a line here that is joined to those on which it lies.
func cover(points []api.Point, lines []api.Line) bool {
	var all []api.Line
	var ends []int
	for i, p := range points {
		all = append(all, api.Line{A: p, B: p})
		ends = append(ends, i)
	}
	all = append(all, lines...)
	p := partsOf(len(all))
	for i, l := range all {
		for j, m := range all[:i] {
			if touch(l, m) {
				p.join(i, j)
			}
		}
	}
	return p.hold(ends)
}

// touch reports whether two lines have a point in common.
func touch(l, m api.Line) bool {
	return overlap(l.A.X, l.B.X, m.A.X, m.B.X) && overlap(l.A.Y, l.B.Y, m.A.Y, m.B.Y)
}

// overlap reports whether some number is between a and b, and between c and d.
func overlap(a, b, c, d int) bool {
	return max(min(a, b), min(c, d)) <= min(max(a, b), max(c, d))
}
