package lane

import (
	"cmp"
	"slices"

	"pritchel/api"
)

// beyond is more than the length of any way.
const beyond = 1 << 20

// country is places that can all be reached from each other, and how far any two of them are apart.
type country struct {
	lanes []api.Lane
	far   [][]int
}

func countryOf(n int, lanes []api.Lane) (country, api.Errno) {
	if n < 1 || n > api.MaxSpots || len(lanes) > api.MaxLanes {
		return country{}, api.ErrArg
	}
	for _, l := range lanes {
		if !isBelow(l.A, n) || !isBelow(l.B, n) || l.A == l.B || l.Length < 1 || l.Length > api.MaxLane {
			return country{}, api.ErrArg
		}
	}
	c := newCountry(n, lanes)
	if slices.Contains(c.far[0], beyond) {
		return country{}, api.ErrArg
	}
	return c, api.OK
}

// countryWith returns the country, and ErrArg also unless there are ends in it.
func countryWith(n int, lanes []api.Lane, ends []int) (country, api.Errno) {
	c, e := countryOf(n, lanes)
	if e == api.OK && (len(ends) < 1 || len(ends) > api.MaxEnds || !isRising(ends, n)) {
		return country{}, api.ErrArg
	}
	return c, e
}

func isBelow(x, n int) bool {
	return x >= 0 && x < n
}

// isRising reports whether each number is greater than the one before it, and all are below n.
func isRising(list []int, n int) bool {
	last := -1
	for _, x := range list {
		if x <= last || x >= n {
			return false
		}
		last = x
	}
	return true
}

// newCountry measures how far places are apart, by Floyd's algorithm.
func newCountry(n int, lanes []api.Lane) country {
	far := make([][]int, n)
	for a := range far {
		far[a] = slices.Repeat([]int{beyond}, n)
		far[a][a] = 0
	}
	for _, l := range lanes {
		far[l.A][l.B] = min(far[l.A][l.B], l.Length)
		far[l.B][l.A] = far[l.A][l.B]
	}
	for by := range n {
		for a := range n {
			for b := range n {
				far[a][b] = min(far[a][b], far[a][by]+far[by][b])
			}
		}
	}
	return country{lanes: lanes, far: far}
}

// length returns the length of some of the lanes.
func (c country) length(net []int) int {
	sum := 0
	for _, i := range net {
		sum += c.lanes[i].Length
	}
	return sum
}

func (c country) joins(ends, net []int) bool {
	p := partsOf(len(c.far))
	for _, i := range net {
		p.join(c.lanes[i].A, c.lanes[i].B)
	}
	return p.hold(ends)
}

// span returns the first shortest net that joins all places: of lanes of the same length it takes the first ones, as Kruskal does.
func (c country) span() []int {
	var net []int
	p := partsOf(len(c.far))
	for _, i := range c.byLength() {
		if p.join(c.lanes[i].A, c.lanes[i].B) {
			net = append(net, i)
		}
	}
	slices.Sort(net)
	return net
}

func (c country) byLength() []int {
	order := make([]int, len(c.lanes))
	for i := range order {
		order[i] = i
	}
	slices.SortStableFunc(order, func(i, j int) int {
		return cmp.Compare(c.lanes[i].Length, c.lanes[j].Length)
	})
	return order
}

// way returns the lanes of a shortest way.
func (c country) way(a, b int) []int {
	var way []int
search:
	for a != b {
		for i, l := range c.lanes {
			for _, step := range [][2]int{{l.A, l.B}, {l.B, l.A}} {
				if step[0] == a && l.Length+c.far[step[1]][b] == c.far[a][b] {
					way = append(way, i)
					a = step[1]
					continue search
				}
			}
		}
	}
	return way
}

// tree returns the least length of a tree that joins n things by lines between two of them.
func tree(n int, far func(i, j int) int) int {
	var lanes []api.Lane
	for i := range n {
		for j := range i {
			lanes = append(lanes, api.Lane{A: j, B: i, Length: far(j, i)})
		}
	}
	c := newCountry(n, lanes)
	return c.length(c.span())
}
