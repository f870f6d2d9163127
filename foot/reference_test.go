package foot_test

import (
	"cmp"
	"slices"
	"testing"

	"pritchel/api"
	"pritchel/foot"
)

// This file works by the definitions of the chapter, as slowly and plainly as they are written, and makes cases.

func points(numbers ...int) []api.Point {
	var l []api.Point
	for i := 0; i < len(numbers); i += 2 {
		l = append(l, api.Point{X: numbers[i], Y: numbers[i+1]})
	}
	return l
}

func pairs(numbers ...int) []api.Pair {
	var l []api.Pair
	for _, p := range points(numbers...) {
		l = append(l, api.Pair{A: p.X, B: p.Y})
	}
	return l
}

func distance(p, q api.Point) int {
	return (p.X-q.X)*(p.X-q.X) + (p.Y-q.Y)*(p.Y-q.Y)
}

// distances returns those of the pairs of a walk.
func distances(a, b []api.Point, walk []api.Pair) []int {
	var l []int
	for _, p := range walk {
		l = append(l, distance(a[p.A], b[p.B]))
	}
	return l
}

func greatest(a, b []api.Point, walk []api.Pair) int {
	return slices.Max(distances(a, b, walk))
}

func sum(a, b []api.Point, walk []api.Pair) int {
	n := 0
	for _, d := range distances(a, b, walk) {
		n += d
	}
	return n
}

// allWalks returns all walks, in no order that is of use.
func allWalks(m, n int) [][]api.Pair {
	return onward([]api.Pair{{A: 0, B: 0}}, m, n)
}

func onward(walk []api.Pair, m, n int) [][]api.Pair {
	at := walk[len(walk)-1]
	if at.A == m-1 && at.B == n-1 {
		return [][]api.Pair{walk}
	}
	var all [][]api.Pair
	for _, step := range pairs(1, 1, 1, 0, 0, 1) {
		if next := (api.Pair{A: at.A + step.A, B: at.B + step.B}); next.A < m && next.B < n {
			all = append(all, onward(append(slices.Clone(walk), next), m, n)...)
		}
	}
	return all
}

func isWalk(walk []api.Pair, m, n int) bool {
	for i, p := range walk[1:] {
		if step := (api.Pair{A: p.A - walk[i].A, B: p.B - walk[i].B}); !slices.Contains(pairs(0, 1, 1, 0, 1, 1), step) {
			return false
		}
	}
	return walk[0] == api.Pair{} && walk[len(walk)-1] == api.Pair{A: m - 1, B: n - 1}
}

func compareWalks(v, w []api.Pair) int {
	return slices.CompareFunc(v, w, func(p, q api.Pair) int {
		return cmp.Or(cmp.Compare(p.A, q.A), cmp.Compare(p.B, q.B))
	})
}

// bestWalk returns the least worth of all walks, and the first one that has it.
func bestWalk(a, b []api.Point, worth func(a, b []api.Point, walk []api.Pair) int) (int, []api.Pair) {
	best := slices.MinFunc(allWalks(len(a), len(b)), func(v, w []api.Pair) int {
		return cmp.Or(cmp.Compare(worth(a, b, v), worth(a, b, w)), compareWalks(v, w))
	})
	return worth(a, b, best), best
}

// table returns, for each pair, the worth of the best beginning of a walk up to it.
func table(a, b []api.Point, join func(x, y int) int) [][]int {
	var t [][]int
	for i := range a {
		t = append(t, nil)
		for j := range b {
			var before []int
			for _, p := range pairs(i-1, j, i, j-1, i-1, j-1) {
				if p.A >= 0 && p.B >= 0 {
					before = append(before, t[p.A][p.B])
				}
			}
			if len(before) == 0 {
				before = []int{0}
			}
			t[i] = append(t[i], join(slices.Min(before), distance(a[i], b[j])))
		}
	}
	return t
}

func greater(x, y int) int { return max(x, y) }

func added(x, y int) int { return x + y }

func nearest(p api.Point, o []api.Point) int {
	var l []int
	for _, q := range o {
		l = append(l, distance(p, q))
	}
	return slices.Min(l)
}

func hausdorff(a, b []api.Point) int {
	var l []int
	for _, p := range a {
		l = append(l, nearest(p, b))
	}
	for _, q := range b {
		l = append(l, nearest(q, a))
	}
	return slices.Max(l)
}

// farthest returns all pairs of points that Farthest chooses from, the first one first.
func farthest(a, b []api.Point) [][]int {
	var l [][]int
	for i, p := range a {
		for j, q := range b {
			d := distance(p, q)
			if d == hausdorff(a, b) && (d == nearest(p, b) || d == nearest(q, a)) {
				l = append(l, []int{i, j})
			}
		}
	}
	return l
}

func turned(o []api.Point, k int) []api.Point {
	return slices.Concat(o[k:], o[:k])
}

func within(l []api.Point, p api.Point, limit int) bool {
	for _, q := range l {
		if distance(p, q) > limit {
			return false
		}
	}
	return true
}

// follows reports whether j may follow i in a short form.
func follows(a []api.Point, i, j, limit int) bool {
	for k := i; k < j; k++ {
		if within(a[i:k+1], a[i], limit) && within(a[k+1:j+1], a[j], limit) {
			return true
		}
	}
	return false
}

func isShort(a []api.Point, form []int, limit int) bool {
	for n, j := range form[1:] {
		if !follows(a, form[n], j, limit) {
			return false
		}
	}
	return form[0] == 0 && form[len(form)-1] == len(a)-1
}

func compareForms(f, g []int) int {
	return cmp.Or(cmp.Compare(len(f), len(g)), slices.Compare(f, g))
}

// short looks at all lists of indices.
func short(a []api.Point, limit int) []int {
	var best []int
	for set := 1; set < 1<<len(a); set++ {
		var form []int
		for i := range a {
			if set>>i&1 == 1 {
				form = append(form, i)
			}
		}
		if isShort(a, form, limit) && (best == nil || compareForms(form, best) < 0) {
			best = form
		}
	}
	return best
}

// longShort returns the same for long outlines: the best form from each point on is made of those from the points after it.
func longShort(a []api.Point, limit int) []int {
	last := len(a) - 1
	best := make([][]int, len(a))
	best[last] = []int{last}
	for i := last - 1; i >= 0; i-- {
		var forms [][]int
		for j := i + 1; j <= last; j++ {
			if follows(a, i, j, limit) {
				forms = append(forms, append([]int{i}, best[j]...))
			}
		}
		best[i] = slices.MinFunc(forms, compareForms)
	}
	return best[0]
}

// sequence is numbers that look as if they had no order, and are always the same.
type sequence uint64

func (r *sequence) below(n int) int {
	*r = *r*6364136223846793005 + 1442695040888963407
	return int(*r >> 33 % sequence(n))
}

// outline returns points whose coordinates are at most so far from 0.
func (r *sequence) outline(n, far int) []api.Point {
	var l []api.Point
	for range n {
		l = append(l, api.Point{X: r.below(2*far+1) - far, Y: r.below(2*far+1) - far})
	}
	return l
}

// twice returns the outline with some points said again.
func (r *sequence) twice(o []api.Point) []api.Point {
	var l []api.Point
	for _, p := range o {
		for range 1 + r.below(3) {
			l = append(l, p)
		}
	}
	return l
}

// beside returns an outline of as many points that is not far off.
func (r *sequence) beside(o []api.Point, far int) []api.Point {
	var l []api.Point
	for i, p := range r.outline(len(o), far) {
		l = append(l, api.Point{X: clamped(o[i].X + p.X), Y: clamped(o[i].Y + p.Y)})
	}
	return l
}

func clamped(x int) int {
	return max(-api.MaxPlace, min(x, api.MaxPlace))
}

// eachSmall calls with outlines that are small enough for everything in this file.
func eachSmall(f func(a, b []api.Point)) {
	r := sequence(1)
	for m := 1; m <= 5; m++ {
		for n := 1; n <= 5; n++ {
			for _, far := range []int{1, 2, 9, api.MaxPlace} {
				a := r.outline(m, far)
				f(a, r.outline(n, far))
				f(a, a)
				f(a, turned(a, r.below(m)))
				f(a, r.beside(a, 2))
			}
		}
	}
}

// eachLarge calls with outlines up to the limits.
func eachLarge(f func(a, b []api.Point)) {
	r := sequence(2)
	for _, n := range []int{1, 7, 15, 29, api.MaxPoints} {
		for _, far := range []int{1, 3, 40, api.MaxPlace} {
			a := r.outline(api.MaxPoints, far)
			f(a, r.outline(n, far))
			f(r.outline(n, far), a)
			f(a[:n], r.beside(a[:n], far))
		}
	}
}

// each calls with both.
func each(f func(a, b []api.Point)) {
	eachSmall(f)
	eachLarge(f)
}

func ok(t *testing.T, name string, e api.Errno) {
	t.Helper()
	if e != api.OK {
		t.Fatalf("%s: %d", name, e)
	}
}

func hausdorffOf(t *testing.T, a, b []api.Point) int {
	t.Helper()
	d, e := foot.Hausdorff(a, b)
	ok(t, "Hausdorff", e)
	return d
}

func farthestOf(t *testing.T, a, b []api.Point) []int {
	t.Helper()
	l, e := foot.Farthest(a, b)
	ok(t, "Farthest", e)
	return l
}

func frechetOf(t *testing.T, a, b []api.Point) int {
	t.Helper()
	d, e := foot.Frechet(a, b)
	ok(t, "Frechet", e)
	return d
}

func walkOf(t *testing.T, a, b []api.Point) []api.Pair {
	t.Helper()
	l, e := foot.Walk(a, b)
	ok(t, "Walk", e)
	return l
}

func withinOf(t *testing.T, a, b []api.Point, limit int) bool {
	t.Helper()
	is, e := foot.Within(a, b, limit)
	ok(t, "Within", e)
	return is
}

func turnedOf(t *testing.T, a, b []api.Point) (int, int) {
	t.Helper()
	d, k, e := foot.Turned(a, b)
	ok(t, "Turned", e)
	return d, k
}

func warpOf(t *testing.T, a, b []api.Point) (int, []api.Pair) {
	t.Helper()
	d, l, e := foot.Warp(a, b)
	ok(t, "Warp", e)
	return d, l
}

func shortOf(t *testing.T, a []api.Point, limit int) []int {
	t.Helper()
	l, e := foot.Short(a, limit)
	ok(t, "Short", e)
	return l
}

func stepsOf(t *testing.T, m, n int) string {
	t.Helper()
	s, e := foot.Steps(m, n)
	ok(t, "Steps", e)
	return string(s)
}
