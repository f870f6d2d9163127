package heap

import "pritchel/api"

// yard is a valid yard; element i of heaps belongs to its vertex i + 1.
type yard struct {
	n      int
	edges  int
	degree []int
	joined [][]int // how many edges join two vertices
}

// yardOf returns the yard, ErrArg if there is none, and ErrForm unless all lists are heaps of it with the given least number of bars.
func yardOf(n int, edges []api.Pair, least int, lists ...[]int) (yard, api.Errno) {
	if n < 2 || n > api.MaxHeaps+1 || len(edges) > api.MaxEdges {
		return yard{}, api.ErrArg
	}
	y := newYard(n)
	for _, e := range edges {
		if !y.has(e.A) || !y.has(e.B) || e.A == e.B {
			return yard{}, api.ErrArg
		}
		y.join(e.A, e.B)
	}
	if !y.connected() {
		return yard{}, api.ErrArg
	}
	for _, heaps := range lists {
		if !y.holds(heaps, least) {
			return yard{}, api.ErrForm
		}
	}
	return y, api.OK
}

func newYard(n int) yard {
	y := yard{n: n, degree: make([]int, n), joined: make([][]int, n)}
	for v := range n {
		y.joined[v] = make([]int, n)
	}
	return y
}

func (y yard) has(v int) bool {
	return v >= 0 && v < y.n
}

func (y *yard) join(a, b int) {
	y.edges++
	y.degree[a]++
	y.degree[b]++
	y.joined[a][b]++
	y.joined[b][a]++
}

// connected needs no search of its own: of the greatest stable heaps, a vertex burns as soon as one of its neighbours does, so that fire goes wherever an edge leads, and nowhere else.
func (y yard) connected() bool {
	return y.all(y.burn(y.greatest()))
}

func (y yard) holds(heaps []int, least int) bool {
	if len(heaps) != y.n-1 {
		return false
	}
	for _, h := range heaps {
		if h < least || h > api.MaxBars {
			return false
		}
	}
	return true
}

// greatest returns the greatest stable heaps.
func (y yard) greatest() []int {
	heaps := make([]int, y.n-1)
	for i := range heaps {
		heaps[i] = y.degree[i+1] - 1
	}
	return heaps
}

func (y yard) stable(heaps []int) bool {
	for i, h := range heaps {
		if h >= y.degree[i+1] {
			return false
		}
	}
	return true
}

// settle returns the stable heaps, and how often each vertex but the sink toppled.
func (y yard) settle(heaps []int) ([]int, []int) {
	bars := make([]int, y.n) // with the sink, so that toppling needs no exception for it
	copy(bars[1:], heaps)
	times := make([]int, y.n-1)
	for !y.stable(bars[1:]) {
		for i := range y.n - 1 {
			times[i] += y.topple(i+1, bars)
		}
	}
	return bars[1:], times
}

// topple topples a vertex as often as its own bars allow, and returns how often that is.
func (y yard) topple(v int, bars []int) int {
	times := bars[v] / y.degree[v]
	bars[v] -= times * y.degree[v]
	for w := range y.n {
		bars[w] += times * y.joined[v][w]
	}
	return times
}

// burn returns the vertices other than the sink that burn, in order.
func (y yard) burn(heaps []int) []int {
	burns := make([]bool, y.n)
	burns[0] = true
	var order []int
	for v := y.catches(heaps, burns); v > 0; v = y.catches(heaps, burns) {
		burns[v] = true
		order = append(order, v)
	}
	return order
}

// catches returns the least vertex that burns next, or 0 if there is none.
func (y yard) catches(heaps []int, burns []bool) int {
	for v := range y.n {
		if !burns[v] && heaps[v-1] >= y.unburnt(v, burns) {
			return v
		}
	}
	return 0
}

// unburnt returns the number of edges of a vertex to vertices that do not burn.
func (y yard) unburnt(v int, burns []bool) int {
	edges := 0
	for w := range y.n {
		if !burns[w] {
			edges += y.joined[v][w]
		}
	}
	return edges
}

// all reports whether these are all the vertices other than the sink.
func (y yard) all(vertices []int) bool {
	return len(vertices) == y.n-1
}

// recurrent returns the recurrent heaps that are equivalent to heaps of -MaxBars or more.
func (y yard) recurrent(heaps []int) []int {
	// There are count classes, so that a multiple of count bars at a vertex changes no class. What settles from the greatest stable heaps, or from more, is recurrent; no degree is above MaxEdges.
	count := y.count()
	more := (api.MaxBars + api.MaxEdges + count - 1) / count * count
	raised := make([]int, len(heaps))
	for i := range raised {
		raised[i] = heaps[i] + more
	}
	stable, _ := y.settle(raised)
	return stable
}

// superstable returns the superstable heaps that are equivalent to heaps of -MaxBars to MaxBars: what recurrent heaps lack to the greatest stable ones.
func (y yard) superstable(heaps []int) []int {
	top := y.greatest()
	return minus(top, y.recurrent(minus(top, heaps)))
}

func minus(a, b []int) []int {
	m := make([]int, len(a))
	for i := range m {
		m[i] = a[i] - b[i]
	}
	return m
}

// laplacian returns the matrix whose row i is what the vertex i + 1 loses when it topples.
func (y yard) laplacian() matrix {
	m := make(matrix, y.n-1)
	for i := range m {
		m[i] = make([]int64, y.n-1)
		for j := range m[i] {
			m[i][j] = -int64(y.joined[i+1][j+1])
		}
		m[i][i] = int64(y.degree[i+1])
	}
	return m
}

// count returns the number of classes, by the matrix-tree theorem.
func (y yard) count() int {
	return int(y.laplacian().determinant())
}

// stableHeaps returns how many heaps are stable.
func (y yard) stableHeaps() int {
	product := 1
	for _, d := range y.degree[1:] {
		product *= d
	}
	return product
}

// next changes stable heaps to the next ones in a fixed order, and reports whether there are any.
func (y yard) next(heaps []int) bool {
	for i := range heaps {
		heaps[i]++
		if heaps[i] < y.degree[i+1] {
			return true
		}
		heaps[i] = 0
	}
	return false
}

func (y yard) level(heaps []int) int {
	level := y.degree[0] - y.edges
	for _, h := range heaps {
		level += h
	}
	return level
}
