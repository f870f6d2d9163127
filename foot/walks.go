package foot

import "pritchel/api"

// walks are the walks along two outlines of m and n points.
type walks struct {
	m, n int
	far  func(p api.Pair) int // the distance of the points of a pair
}

func between(a, b []api.Point) walks {
	far := func(p api.Pair) int { return apart(a[p.A], b[p.B]) }
	return walks{m: len(a), n: len(b), far: far}
}

// beyond returns the same walks with other distances: 0 for points that are at most the limit away from each other, and 1 for all others. The walks whose sum is 0 then are those that keep within the limit.
func (w walks) beyond(limit int) walks {
	far := func(p api.Pair) int {
		if w.far(p) <= limit {
			return 0
		}
		return 1
	}
	return walks{m: w.m, n: w.n, far: far}
}

func (w walks) frechet() int {
	return w.least(func(far, rest int) int { return max(far, rest) })[0][0]
}

// warp returns the least sum of a walk, and the first walk with that sum.
func (w walks) warp() (int, []api.Pair) {
	least := w.least(func(far, rest int) int { return far + rest })
	at := api.Pair{}
	first := []api.Pair{at}
	for at != w.last() {
		at = w.next(at, least)
		first = append(first, at)
	}
	return least[0][0], first
}

// least returns, for each pair, the least that the distances from it to the end of a walk come to. The function puts a distance together with those that follow it; it must not fall when they rise.
func (w walks) least(join func(far, rest int) int) [][]int {
	least := make([][]int, w.m)
	for i := w.m - 1; i >= 0; i-- {
		least[i] = make([]int, w.n)
		for j := w.n - 1; j >= 0; j-- {
			at := api.Pair{A: i, B: j}
			least[i][j] = w.far(at)
			if at != w.last() {
				next := w.next(at, least)
				least[i][j] = join(least[i][j], least[next.A][next.B])
			}
		}
	}
	return least
}

func (w walks) last() api.Pair {
	return api.Pair{A: w.m - 1, B: w.n - 1}
}

// next returns the pair after this one, which is not the last one, from which the least is least; of several the first one.
func (w walks) next(at api.Pair, least [][]int) api.Pair {
	after := [...]api.Pair{{A: at.A, B: at.B + 1}, {A: at.A + 1, B: at.B}, {A: at.A + 1, B: at.B + 1}}
	best := api.Pair{} // walks begin with it, so that it comes after no pair
	for _, p := range after {
		if p.A < w.m && p.B < w.n && (best == api.Pair{} || least[p.A][p.B] < least[best.A][best.B]) {
			best = p
		}
	}
	return best
}

// steps returns how many walks there are along outlines of m and n points.
func steps(m, n int) api.Num {
	row := make([]api.Num, n)
	for j := range row {
		row[j] = "1"
	}
	for range m - 1 {
		next := make([]api.Num, n)
		next[0] = "1"
		for j := 1; j < n; j++ {
			next[j] = plus(plus(row[j], next[j-1]), row[j-1])
		}
		row = next
	}
	return row[n-1]
}

// plus adds digit by digit: there are more walks than 64 bits can count.
func plus(a, b api.Num) api.Num {
	if len(a) < len(b) {
		a, b = b, a
	}
	sum := make([]byte, len(a))
	carry := byte(0)
	for i := len(a) - 1; i >= 0; i-- {
		digit := a[i] - '0' + carry
		if j := i - len(a) + len(b); j >= 0 {
			digit += b[j] - '0'
		}
		sum[i] = '0' + digit%10
		carry = digit / 10
	}
	if carry > 0 {
		return "1" + api.Num(sum)
	}
	return api.Num(sum)
}
