package lane_test

import (
	"cmp"
	"slices"
	"testing"

	"pritchel/api"
	"pritchel/lane"
)

// This file works by the definitions of the chapter, as slowly and plainly as they are written, and makes cases.

// country is places and lanes.
type country struct {
	n     int
	lanes []api.Lane
}

// lanes returns lanes, each given by two places and a length.
func lanes(numbers ...int) []api.Lane {
	var l []api.Lane
	for i := 0; i < len(numbers); i += 3 {
		l = append(l, api.Lane{A: numbers[i], B: numbers[i+1], Length: numbers[i+2]})
	}
	return l
}

func points(numbers ...int) []api.Point {
	var l []api.Point
	for i := 0; i < len(numbers); i += 2 {
		l = append(l, api.Point{X: numbers[i], Y: numbers[i+1]})
	}
	return l
}

// lines returns lines, each given by the coordinates of two points.
func lines(numbers ...int) []api.Line {
	var l []api.Line
	p := points(numbers...)
	for i := 0; i < len(p); i += 2 {
		l = append(l, api.Line{A: p[i], B: p[i+1]})
	}
	return l
}

// cut returns a cut of a weight and places.
func cut(weight int, places ...int) api.Cut {
	return api.Cut{Places: places, Weight: weight}
}

// upTo returns the numbers below n.
func upTo(n int) []int {
	var l []int
	for i := range n {
		l = append(l, i)
	}
	return l
}

// sets returns all sets of numbers below n, as rising lists.
func sets(n int) [][]int {
	all := [][]int{{}}
	for i := range n {
		for _, s := range all {
			all = append(all, append(slices.Clone(s), i))
		}
	}
	return all
}

// distances returns how far each place is from one: a way becomes shorter as long as some lane makes it so.
func (c country) distances(from int) []int {
	const beyond = 1000000
	far := slices.Repeat([]int{beyond}, c.n)
	far[from] = 0
	for again := true; again; {
		again = false
		for _, l := range c.lanes {
			for _, p := range [][2]int{{l.A, l.B}, {l.B, l.A}} {
				if far[p[0]]+l.Length < far[p[1]] {
					far[p[1]] = far[p[0]] + l.Length
					again = true
				}
			}
		}
	}
	return far
}

// isNet reports whether the lanes of a net lead from the first end to all of them.
func (c country) isNet(ends, net []int) bool {
	reached := []int{ends[0]}
	for again := true; again; {
		again = false
		for _, i := range net {
			a, b := slices.Contains(reached, c.lanes[i].A), slices.Contains(reached, c.lanes[i].B)
			if a != b {
				reached = append(reached, c.lanes[i].A, c.lanes[i].B)
				again = true
			}
		}
	}
	return !slices.ContainsFunc(ends, func(e int) bool { return !slices.Contains(reached, e) })
}

func (c country) length(net []int) int {
	sum := 0
	for _, i := range net {
		sum += c.lanes[i].Length
	}
	return sum
}

// shortest looks at all sets of lanes, and returns the lexicographically least one of the shortest nets.
func (c country) shortest(ends []int) []int {
	var best []int
	for _, net := range sets(len(c.lanes)) {
		if c.isNet(ends, net) && (best == nil || cmp.Or(cmp.Compare(c.length(net), c.length(best)), slices.Compare(net, best)) < 0) {
			best = net
		}
	}
	return best
}

// tree returns the length of a shortest net that joins these places by lanes between them alone, if there is one: it takes the shortest lane that leads on, as Prim does.
func (c country) tree(places []int) (int, bool) {
	reached, sum := []int{places[0]}, 0
	for len(reached) < len(places) {
		next, length := -1, 0
		for _, l := range c.lanes {
			for _, p := range [][2]int{{l.A, l.B}, {l.B, l.A}} {
				if slices.Contains(reached, p[0]) && slices.Contains(places, p[1]) && !slices.Contains(reached, p[1]) && (next < 0 || l.Length < length) {
					next, length = p[1], l.Length
				}
			}
		}
		if next < 0 {
			return 0, false
		}
		reached, sum = append(reached, next), sum+length
	}
	return sum, true
}

// steiner looks at all sets of places that a net may reach.
func (c country) steiner(ends []int) int {
	least := -1
	for _, places := range sets(c.n) {
		if slices.ContainsFunc(ends, func(e int) bool { return !slices.Contains(places, e) }) {
			continue
		}
		if length, is := c.tree(places); is && (least < 0 || length < least) {
			least = length
		}
	}
	return least
}

// span takes lane after lane, as long as some shortest net has all of those: one that costs nothing else if they are free.
func (c country) span() []int {
	least, _ := c.tree(upTo(c.n))
	var net []int
	for i := range c.lanes {
		free := country{n: c.n, lanes: slices.Clone(c.lanes)}
		with := append(slices.Clone(net), i)
		for _, j := range with {
			free.lanes[j].Length = 0
		}
		if rest, _ := free.tree(upTo(c.n)); c.length(with)+rest == least {
			net = with
		}
	}
	return net
}

// lineTree looks at all sets of lines between n things that are enough for a tree, and returns the least length of one.
func lineTree(n int, far func(i, j int) int) int {
	c := country{n: n}
	for i := range n {
		for j := range i {
			c.lanes = append(c.lanes, api.Lane{A: i, B: j, Length: far(i, j)})
		}
	}
	least := -1
	for set := range 1 << len(c.lanes) {
		var net []int
		for i := range c.lanes {
			if set>>i&1 == 1 {
				net = append(net, i)
			}
		}
		if len(net) == n-1 && (least < 0 || c.length(net) < least) && c.isNet(upTo(n), net) {
			least = c.length(net)
		}
	}
	return least
}

func (c country) near(ends []int) int {
	return lineTree(len(ends), func(i, j int) int { return c.distances(ends[i])[ends[j]] })
}

// has returns how many of some places are in a list.
func has(list, places []int) int {
	count := 0
	for _, p := range places {
		if slices.Contains(list, p) {
			count++
		}
	}
	return count
}

// borne returns what cuts weigh on a lane.
func borne(cuts []api.Cut, l api.Lane) int {
	sum := 0
	for _, c := range cuts {
		if has(c.Places, []int{l.A, l.B}) == 1 {
			sum += c.Weight
		}
	}
	return sum
}

func worth(cuts []api.Cut) int {
	sum := 0
	for _, c := range cuts {
		sum += c.Weight
	}
	return sum
}

func (c country) isProof(ends []int, cuts []api.Cut) bool {
	for _, cut := range cuts {
		if count := has(cut.Places, ends); count == 0 || count == len(ends) || cut.Weight < 1 || cut.Weight > api.MaxHalves {
			return false
		}
	}
	return len(cuts) <= api.MaxCuts && !slices.ContainsFunc(c.lanes, func(l api.Lane) bool { return borne(cuts, l) > 2*l.Length })
}

// moats grows step by step; the parts are in the order of their least places.
func (c country) moats(ends []int) []api.Cut {
	var parts [][]int
	for i := range c.n {
		parts = append(parts, []int{i})
	}
	var cuts []api.Cut
	for !slices.ContainsFunc(parts, func(part []int) bool { return has(part, ends) == len(ends) }) {
		for _, part := range parts {
			if has(part, ends) == 0 {
				continue
			}
			i := slices.IndexFunc(cuts, func(c api.Cut) bool { return slices.Equal(c.Places, part) })
			if i < 0 {
				i = len(cuts)
				cuts = append(cuts, api.Cut{Places: slices.Clone(part)})
			}
			cuts[i].Weight++
		}
		for _, l := range c.lanes {
			if borne(cuts, l) == 2*l.Length {
				parts = merged(parts, l)
			}
		}
	}
	return cuts
}

// merged makes the parts that a lane joins one.
func merged(parts [][]int, l api.Lane) [][]int {
	var union []int
	var others [][]int
	for _, part := range parts {
		if has(part, []int{l.A, l.B}) > 0 {
			union = append(union, part...)
		} else {
			others = append(others, part)
		}
	}
	slices.Sort(union)
	others = append(others, union)
	slices.SortFunc(others, slices.Compare)
	return others
}

func sameCuts(a, b []api.Cut) bool {
	return slices.EqualFunc(a, b, func(c, d api.Cut) bool { return c.Weight == d.Weight && slices.Equal(c.Places, d.Places) })
}

func apart(p, q api.Point) int {
	return max(p.X, q.X) - min(p.X, q.X) + max(p.Y, q.Y) - min(p.Y, q.Y)
}

func pointTree(l []api.Point) int {
	return lineTree(len(l), func(i, j int) int { return apart(l[i], l[j]) })
}

// on returns all points of a line, which is along an axis.
func on(l api.Line) []api.Point {
	var all []api.Point
	for x := min(l.A.X, l.B.X); x <= max(l.A.X, l.B.X); x++ {
		for y := min(l.A.Y, l.B.Y); y <= max(l.A.Y, l.B.Y); y++ {
			all = append(all, api.Point{X: x, Y: y})
		}
	}
	return all
}

// covers goes from the first point along lines, point by point.
func covers(l []api.Point, lines []api.Line) (int, bool) {
	sum := 0
	for _, line := range lines {
		if line.A == line.B || line.A.X != line.B.X && line.A.Y != line.B.Y {
			return 0, false
		}
		sum += apart(line.A, line.B)
	}
	reached := map[api.Point]bool{l[0]: true}
	used := make([]bool, len(lines))
	for again := true; again; {
		again = false
		for i, line := range lines {
			if used[i] || !slices.ContainsFunc(on(line), func(p api.Point) bool { return reached[p] }) {
				continue
			}
			used[i], again = true, true
			for _, p := range on(line) {
				reached[p] = true
			}
		}
	}
	return sum, !slices.ContainsFunc(l, func(p api.Point) bool { return !reached[p] })
}

// joinedBy returns the least length of a tree that joins points, as Prim does.
func joinedBy(l []api.Point) int {
	far := make([]int, len(l))
	for i := range l {
		far[i] = apart(l[0], l[i])
	}
	sum := 0
	for range len(l) - 1 {
		next := -1
		for i, d := range far {
			if d > 0 && (next < 0 || d < far[next]) {
				next = i
			}
		}
		sum += far[next]
		for i := range far {
			far[i] = min(far[i], apart(l[next], l[i]))
		}
	}
	return sum
}

func crossings(l []api.Point) []api.Point {
	var all []api.Point
	for _, p := range l {
		for _, q := range l {
			if c := (api.Point{X: p.X, Y: q.Y}); !slices.Contains(all, c) {
				all = append(all, c)
			}
		}
	}
	return all
}

// grid joins the points with crossings where a net may fork, of which there are at most two fewer than points.
func grid(l []api.Point) int {
	least := joinedBy(l)
	var with func(forks, others []api.Point)
	with = func(forks, others []api.Point) {
		least = min(least, joinedBy(slices.Concat(l, forks)))
		if len(forks)+2 >= len(l) {
			return
		}
		for i, p := range others {
			if !slices.Contains(l, p) {
				with(append(slices.Clone(forks), p), others[i+1:])
			}
		}
	}
	with(nil, crossings(l))
	return least
}

// sequence is numbers that look as if they had no order, and are always the same.
type sequence uint64

func (r *sequence) below(n int) int {
	*r = *r*6364136223846793005 + 1442695040888963407
	return int(*r >> 33 % sequence(n))
}

// numbers returns count different numbers below n in any order.
func (r *sequence) numbers(count, n int) []int {
	l := upTo(n)
	for i := range l {
		j := r.below(i + 1)
		l[i], l[j] = l[j], l[i]
	}
	return l[:count]
}

// country returns one of n places, with n - 1 lanes or more, in any order, each at most so long.
func (r *sequence) country(n, count, most int) country {
	c := country{n: n}
	order := r.numbers(n, n)
	for i := 1; i < n; i++ {
		c.lanes = append(c.lanes, r.lane(order[i], order[r.below(i)], most))
	}
	for n > 1 && len(c.lanes) < count {
		two := r.numbers(2, n)
		c.lanes = append(c.lanes, r.lane(two[0], two[1], most))
	}
	mixed := make([]api.Lane, len(c.lanes))
	for i, j := range r.numbers(len(mixed), len(mixed)) {
		mixed[i] = c.lanes[j]
	}
	c.lanes = mixed
	return c
}

func (r *sequence) lane(a, b, most int) api.Lane {
	if r.below(2) == 0 {
		a, b = b, a
	}
	return api.Lane{A: a, B: b, Length: 1 + r.below(most)}
}

func (r *sequence) ends(count, n int) []int {
	l := r.numbers(min(count, n), n)
	slices.Sort(l)
	return l
}

// points returns different points, with coordinates up to most.
func (r *sequence) points(count, most int) []api.Point {
	var l []api.Point
	for len(l) < count {
		if p := (api.Point{X: r.below(most + 1), Y: r.below(most + 1)}); !slices.Contains(l, p) {
			l = append(l, p)
		}
	}
	return l
}

// lines returns lines between different points with coordinates up to most.
func (r *sequence) lines(count, most int) []api.Line {
	var l []api.Line
	for len(l) < count {
		p := r.points(2, most)
		if r.below(2) == 0 {
			p[1].X = p[0].X
		} else {
			p[1].Y = p[0].Y
		}
		if p[0] != p[1] {
			l = append(l, api.Line{A: p[0], B: p[1]})
		}
	}
	return l
}

// cuts returns cuts of any places, mostly with an end.
func (r *sequence) cuts(n, count, most int, ends []int) []api.Cut {
	var l []api.Cut
	for range count {
		places := append(r.numbers(r.below(n), n), ends[r.below(len(ends))])
		slices.Sort(places)
		l = append(l, api.Cut{Places: slices.Compact(places), Weight: 1 + r.below(most)})
	}
	return l
}

// known returns countries with a shape that has a name.
func known(length int) []country {
	var all []country
	for n := 1; n <= api.MaxSpots; n++ {
		path, star, wheel := country{n: n}, country{n: n}, country{n: n}
		for i := 1; i < n; i++ {
			path.lanes = append(path.lanes, api.Lane{A: i - 1, B: i, Length: length})
			star.lanes = append(star.lanes, api.Lane{A: n - 1, B: i - 1, Length: length})
		}
		for i := 1; i < n-1; i++ {
			wheel.lanes = append(wheel.lanes, api.Lane{A: i - 1, B: i, Length: length})
		}
		wheel.lanes = append(wheel.lanes, star.lanes...)
		ring := country{n: n, lanes: slices.Clone(path.lanes)}
		if n > 1 {
			ring.lanes = append(ring.lanes, api.Lane{A: n - 1, B: 0, Length: length})
		}
		all = append(all, path, star, ring, wheel)
	}
	for n := 3; n <= 8; n++ {
		full := country{n: n}
		for i := range n {
			for j := range i {
				full.lanes = append(full.lanes, api.Lane{A: i, B: j, Length: length})
			}
		}
		all = append(all, full)
	}
	return all
}

// eachSmall goes through countries with few lanes, and all ends.
func eachSmall(f func(c country, ends []int)) {
	r := sequence(1)
	for n := 1; n <= 6; n++ {
		for _, most := range []int{1, 2, 5, api.MaxLane} {
			for more := range 4 {
				c := r.country(n, n-1+more, most)
				for _, ends := range sets(n)[1:] {
					f(c, ends)
				}
			}
		}
	}
}

// eachLarge goes through countries up to the limits.
func eachLarge(f func(c country, ends []int)) {
	r := sequence(2)
	for n := 1; n <= api.MaxSpots; n++ {
		for _, count := range []int{n, 2 * n, api.MaxLanes} {
			for _, most := range []int{1, 3, 10, api.MaxLane} {
				c := r.country(n, count, most)
				f(c, r.ends(1+r.below(api.MaxEnds), n))
				f(c, r.ends(api.MaxEnds, n))
			}
		}
	}
	for _, length := range []int{1, 2, api.MaxLane} {
		for _, c := range known(length) {
			f(c, r.ends(2, c.n))
			f(c, r.ends(api.MaxEnds, c.n))
			f(c, upTo(min(3, c.n)))
		}
	}
}

// each calls with both.
func each(f func(c country, ends []int)) {
	eachSmall(f)
	eachLarge(f)
}

// eachPoints goes through points, few and many, near and far from each other.
func eachPoints(f func(l []api.Point)) {
	r := sequence(3)
	for count := 1; count <= api.MaxEnds; count++ {
		for _, most := range []int{2, 3, 7, 30, api.MaxLane} {
			for range 15 {
				f(r.points(count, most))
			}
		}
	}
	for _, l := range [][]api.Point{
		points(0, 0, 100, 100, 0, 100, 100, 0), points(50, 0, 0, 50, 100, 50, 50, 100), points(0, 0, 20, 0, 40, 0, 60, 0, 80, 0, 100, 0),
		points(0, 7, 10, 7, 20, 7, 30, 7, 15, 0, 15, 14), points(0, 0, 1, 1, 2, 2, 3, 3, 4, 4, 5, 5), points(0, 100, 20, 80, 40, 60, 60, 40, 80, 20, 100, 0),
		points(0, 20, 20, 60, 40, 0, 60, 100, 80, 40, 100, 80), points(1, 0, 0, 1, 1, 2, 2, 1), points(1, 0, 0, 1, 1, 2, 2, 1, 3, 2, 4, 1),
	} {
		f(l)
	}
}

func ok(t *testing.T, name string, e api.Errno) {
	t.Helper()
	if e != api.OK {
		t.Fatalf("%s: error %d", name, e)
	}
}

// The following functions fail the test if an error is returned.

func distanceOf(t *testing.T, c country, a, b int) int {
	t.Helper()
	d, e := lane.Distance(c.n, c.lanes, a, b)
	ok(t, "Distance", e)
	return d
}

func spanOf(t *testing.T, c country) []int {
	t.Helper()
	l, e := lane.Span(c.n, c.lanes)
	ok(t, "Span", e)
	return l
}

func steinerOf(t *testing.T, c country, ends []int) int {
	t.Helper()
	d, e := lane.Steiner(c.n, c.lanes, ends)
	ok(t, "Steiner", e)
	return d
}

func netOf(t *testing.T, c country, ends []int) []int {
	t.Helper()
	l, e := lane.Net(c.n, c.lanes, ends)
	ok(t, "Net", e)
	return l
}

func joinsOf(t *testing.T, c country, ends, net []int) (int, bool) {
	t.Helper()
	d, is, e := lane.Joins(c.n, c.lanes, ends, net)
	ok(t, "Joins", e)
	return d, is
}

func nearOf(t *testing.T, c country, ends []int) int {
	t.Helper()
	d, e := lane.Near(c.n, c.lanes, ends)
	ok(t, "Near", e)
	return d
}

func provesOf(t *testing.T, c country, ends []int, cuts []api.Cut) (int, bool) {
	t.Helper()
	d, is, e := lane.Proves(c.n, c.lanes, ends, cuts)
	ok(t, "Proves", e)
	return d, is
}

func moatsOf(t *testing.T, c country, ends []int) []api.Cut {
	t.Helper()
	l, e := lane.Moats(c.n, c.lanes, ends)
	ok(t, "Moats", e)
	return l
}

func gridOf(t *testing.T, l []api.Point) int {
	t.Helper()
	d, e := lane.Grid(l)
	ok(t, "Grid", e)
	return d
}

func linesOf(t *testing.T, l []api.Point) []api.Line {
	t.Helper()
	m, e := lane.Lines(l)
	ok(t, "Lines", e)
	return m
}

func coversOf(t *testing.T, l []api.Point, lines []api.Line) (int, bool) {
	t.Helper()
	d, is, e := lane.Covers(l, lines)
	ok(t, "Covers", e)
	return d, is
}

func treeOf(t *testing.T, l []api.Point) int {
	t.Helper()
	d, e := lane.Tree(l)
	ok(t, "Tree", e)
	return d
}
