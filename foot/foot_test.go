package foot_test

import (
	"math"
	"math/big"
	"slices"
	"testing"

	"pritchel/api"
	"pritchel/foot"
)

func TestExamples(t *testing.T) {
	a, b := points(0, 0, 4, 0), points(0, 3, 4, 0)
	if d := hausdorffOf(t, a, b); d != 9 {
		t.Errorf("Hausdorff = %d", d)
	}
	if d := frechetOf(t, a, b); d != 9 {
		t.Errorf("Frechet = %d", d)
	}
	if l := walkOf(t, a, b); !slices.Equal(l, pairs(0, 0, 1, 1)) {
		t.Errorf("Walk = %v", l)
	}
	b = points(4, 0, 0, 0)
	if d := hausdorffOf(t, a, b); d != 0 {
		t.Errorf("Hausdorff = %d", d)
	}
	if d := frechetOf(t, a, b); d != 16 {
		t.Errorf("Frechet = %d", d)
	}
	if d, k := turnedOf(t, a, b); d != 0 || k != 1 {
		t.Errorf("Turned = %d, %d", d, k)
	}
	a = points(0, 0, 1, 0, 2, 0, 9, 0)
	if l := shortOf(t, a, 4); !slices.Equal(l, []int{0, 3}) {
		t.Errorf("Short = %v", l)
	}
	if l := shortOf(t, a, 0); !slices.Equal(l, []int{0, 1, 2, 3}) {
		t.Errorf("Short = %v", l)
	}
	if s := stepsOf(t, 3, 3); s != "13" {
		t.Errorf("Steps = %s", s)
	}
}

// Points that are the same and a single point are outlines, too.
func TestOnePoint(t *testing.T) {
	a := points(3, 4)
	for n := 1; n <= api.MaxPoints; n++ {
		b := slices.Repeat(points(0, 0), n)
		var walk []api.Pair
		for j := range n {
			walk = append(walk, api.Pair{A: 0, B: j})
		}
		if h, f := hausdorffOf(t, a, b), frechetOf(t, a, b); h != 25 || f != 25 {
			t.Errorf("%d points: Hausdorff = %d, Frechet = %d", n, h, f)
		}
		if l := farthestOf(t, a, b); !slices.Equal(l, []int{0, 0}) {
			t.Errorf("%d points: Farthest = %v", n, l)
		}
		if l := walkOf(t, a, b); !slices.Equal(l, walk) {
			t.Errorf("%d points: Walk = %v", n, l)
		}
		if d, k := turnedOf(t, a, b); d != 25 || k != 0 {
			t.Errorf("%d points: Turned = %d, %d", n, d, k)
		}
		if d, l := warpOf(t, a, b); d != 25*n || !slices.Equal(l, walk) {
			t.Errorf("%d points: Warp = %d, %v", n, d, l)
		}
	}
	if l := shortOf(t, a, 0); !slices.Equal(l, []int{0}) {
		t.Errorf("Short = %v", l)
	}
}

// The greatest distance that there can be does no harm.
func TestFarApart(t *testing.T) {
	a := slices.Repeat(points(-api.MaxPlace, api.MaxPlace), api.MaxPoints)
	b := slices.Repeat(points(api.MaxPlace, -api.MaxPlace), api.MaxPoints)
	const far = 8 * api.MaxPlace * api.MaxPlace
	if h, f := hausdorffOf(t, a, b), frechetOf(t, a, b); h != far || f != far {
		t.Errorf("Hausdorff = %d, Frechet = %d", h, f)
	}
	if d, l := warpOf(t, a, b); d != far*api.MaxPoints || len(l) != api.MaxPoints {
		t.Errorf("Warp = %d, %v", d, l)
	}
	if withinOf(t, a, b, far-1) || !withinOf(t, a, b, far) || !withinOf(t, a, b, math.MaxInt) {
		t.Errorf("Within is not from %d on", far)
	}
}

func TestHausdorff(t *testing.T) {
	each(func(a, b []api.Point) {
		if d := hausdorffOf(t, a, b); d != hausdorff(a, b) {
			t.Errorf("Hausdorff(%v, %v) = %d, not %d", a, b, d, hausdorff(a, b))
		}
	})
}

func TestFarthest(t *testing.T) {
	each(func(a, b []api.Point) {
		if l := farthestOf(t, a, b); !slices.Equal(l, farthest(a, b)[0]) {
			t.Errorf("Farthest(%v, %v) = %v, not %v", a, b, l, farthest(a, b)[0])
		}
	})
}

// Two points may be so far apart without being the ones that count: each of them may have a nearer one.
func TestFarthestPasses(t *testing.T) {
	a, b := points(0, 0, 5, 5, 0, 0), points(5, 5, 0, 0, 0, 3, 3, 0)
	cases := []struct {
		a, b []api.Point
		d    int
		want []int
	}{
		{points(0, 0, 3, 0), points(3, 0, 0, 0, 3, 3), 9, []int{1, 2}},
		{points(3, 0, 0, 0, 3, 3), points(0, 0, 3, 0), 9, []int{2, 1}},
		{points(0, 0), points(0, 0, 1, 0, 0, 2, 2, 0), 4, []int{0, 2}},
		{points(0, 0, 1, 0, 0, 2, 2, 0), points(0, 0), 4, []int{2, 0}},
		{a, b, 9, []int{0, 2}},
		{b, a, 9, []int{2, 0}},
	}
	for _, c := range cases {
		if d, l := hausdorffOf(t, c.a, c.b), farthestOf(t, c.a, c.b); d != c.d || !slices.Equal(l, c.want) {
			t.Errorf("%v and %v: Hausdorff = %d, Farthest = %v, not %d, %v", c.a, c.b, d, l, c.d, c.want)
		}
	}
}

func TestFrechetAndWalk(t *testing.T) {
	eachSmall(func(a, b []api.Point) {
		d, walk := bestWalk(a, b, greatest)
		if f := frechetOf(t, a, b); f != d {
			t.Errorf("Frechet(%v, %v) = %d, not %d", a, b, f, d)
		}
		if l := walkOf(t, a, b); !slices.Equal(l, walk) {
			t.Errorf("Walk(%v, %v) = %v, not %v", a, b, l, walk)
		}
	})
}

// The walk first goes along the second outline, then along the first one.
func TestFirstWalk(t *testing.T) {
	same := slices.Repeat(points(7, 7), 3)
	if l := walkOf(t, same, same); !slices.Equal(l, pairs(0, 0, 0, 1, 0, 2, 1, 2, 2, 2)) {
		t.Errorf("Walk = %v", l)
	}
	if d, l := warpOf(t, same, same); d != 0 || !slices.Equal(l, pairs(0, 0, 0, 1, 0, 2, 1, 2, 2, 2)) {
		t.Errorf("Warp = %d, %v", d, l)
	}
	// the greatest distance is at the end: before it the walk may be as far off, and takes the first way
	a, b := points(0, 0, 1, 0, 2, 0, 9, 0), points(0, 0, 1, 0, 2, 0, 9, 3)
	if l := walkOf(t, a, b); !slices.Equal(l, pairs(0, 0, 0, 1, 0, 2, 1, 2, 2, 2, 3, 3)) {
		t.Errorf("Walk = %v", l)
	}
	if d, l := warpOf(t, a, b); d != 9 || !slices.Equal(l, pairs(0, 0, 1, 1, 2, 2, 3, 3)) {
		t.Errorf("Warp = %d, %v", d, l)
	}
}

// isFirst tells by the tables of the outlines read backwards whether no walk that is before this one is as good.
func isFirst(walk []api.Pair, rest [][]int, fits func(begun []api.Pair, rest int) bool) bool {
	m, n := len(rest), len(rest[0])
	for i := range walk[1:] {
		at, next := walk[i], walk[i+1]
		for _, p := range pairs(at.A, at.B+1, at.A+1, at.B) {
			before := compareWalks([]api.Pair{p}, []api.Pair{next}) < 0
			if before && p.A < m && p.B < n && fits(walk[:i+1], rest[m-1-p.A][n-1-p.B]) {
				return false
			}
		}
	}
	return isWalk(walk, m, n)
}

func backwards(o []api.Point) []api.Point {
	l := slices.Clone(o)
	slices.Reverse(l)
	return l
}

func TestLongWalk(t *testing.T) {
	eachLarge(func(a, b []api.Point) {
		d := table(a, b, greater)[len(a)-1][len(b)-1]
		if f := frechetOf(t, a, b); f != d {
			t.Errorf("Frechet(%v, %v) = %d, not %d", a, b, f, d)
		}
		walk := walkOf(t, a, b)
		fits := func(begun []api.Pair, rest int) bool { return rest <= d }
		if greatest(a, b, walk) != d || !isFirst(walk, table(backwards(a), backwards(b), greater), fits) {
			t.Errorf("Walk(%v, %v) = %v", a, b, walk)
		}
	})
}

func TestWarp(t *testing.T) {
	eachSmall(func(a, b []api.Point) {
		d, walk := bestWalk(a, b, sum)
		if s, l := warpOf(t, a, b); s != d || !slices.Equal(l, walk) {
			t.Errorf("Warp(%v, %v) = %d, %v, not %d, %v", a, b, s, l, d, walk)
		}
	})
}

func TestLongWarp(t *testing.T) {
	eachLarge(func(a, b []api.Point) {
		d := table(a, b, added)[len(a)-1][len(b)-1]
		s, walk := warpOf(t, a, b)
		fits := func(begun []api.Pair, rest int) bool { return sum(a, b, begun)+rest == d }
		if s != d || sum(a, b, walk) != d || !isFirst(walk, table(backwards(a), backwards(b), added), fits) {
			t.Errorf("Warp(%v, %v) = %d, %v, not %d", a, b, s, walk, d)
		}
	})
}

func TestTurned(t *testing.T) {
	each(func(a, b []api.Point) {
		var l []int
		for k := range b {
			l = append(l, frechetOf(t, a, turned(b, k)))
		}
		least := slices.Min(l)
		if d, k := turnedOf(t, a, b); d != least || k != slices.Index(l, least) {
			t.Errorf("Turned(%v, %v) = %d, %d, but these are turned: %v", a, b, d, k, l)
		}
	})
}

func TestShort(t *testing.T) {
	r := sequence(3)
	for n := 1; n <= 9; n++ {
		for _, far := range []int{1, 2, 4, 4, api.MaxPlace} {
			a := r.outline(n, far)
			for _, limit := range []int{0, 1, 2, 5, far*far - 1, far * far, 2 * far * far, 8 * far * far, math.MaxInt} {
				if l, m := shortOf(t, a, limit), short(a, limit); !slices.Equal(l, m) {
					t.Errorf("Short(%v, %d) = %v, not %v", a, limit, l, m)
				}
			}
		}
	}
}

func TestLongShort(t *testing.T) {
	r := sequence(4)
	for _, n := range []int{10, 20, api.MaxPoints} {
		for _, far := range []int{1, 3, 9, api.MaxPlace} {
			for _, a := range [][]api.Point{r.outline(n, far), r.twice(r.outline(n, far))[:n]} {
				for _, limit := range []int{0, 1, far, far * far, 2 * far * far, 8 * far * far} {
					if l, m := shortOf(t, a, limit), longShort(a, limit); !slices.Equal(l, m) {
						t.Errorf("Short(%v, %d) = %v, not %v", a, limit, l, m)
					}
				}
			}
		}
	}
}

// The points between two go first with the one, then with the other; where it turns is free, but it turns once.
func TestShortKnown(t *testing.T) {
	cases := []struct {
		a     []api.Point
		limit int
		want  []int
	}{
		{points(5, 5), math.MaxInt, []int{0}},
		{points(0, 0, 9, 9), 0, []int{0, 1}},
		{points(0, 0, 0, 0), 0, []int{0, 1}},
		{points(0, 0, 0, 0, 9, 9, 9, 9), 0, []int{0, 3}},
		{points(0, 0, 9, 0, 0, 0, 9, 0), 0, []int{0, 1, 2, 3}},
		{points(0, 0, 9, 0, 0, 0, 9, 0), 80, []int{0, 1, 2, 3}},
		{points(0, 0, 9, 0, 0, 0, 9, 0), 81, []int{0, 3}},
		{points(0, 0, 3, 0, 6, 0, 9, 0), 8, []int{0, 1, 2, 3}},
		{points(0, 0, 3, 0, 6, 0, 9, 0), 9, []int{0, 3}},
		{points(0, 0, 1, 0, 2, 0, 3, 0, 4, 0), 1, []int{0, 1, 4}},
		{points(0, 0, 5, 0, 5, 0, 0, 0), 0, []int{0, 1, 3}},
	}
	for _, c := range cases {
		if l := shortOf(t, c.a, c.limit); !slices.Equal(l, c.want) {
			t.Errorf("Short(%v, %d) = %v, not %v", c.a, c.limit, l, c.want)
		}
	}
}

func TestSteps(t *testing.T) {
	for m := 1; m <= 6; m++ {
		for n := 1; n <= 6; n++ {
			if s, k := stepsOf(t, m, n), int64(len(allWalks(m, n))); s != big.NewInt(k).String() {
				t.Errorf("Steps(%d, %d) = %s, not %d", m, n, s, k)
			}
		}
	}
}

// Steps along both are counted once: of all steps m - 1 go along the first outline, of these k along the second one, too.
func TestManySteps(t *testing.T) {
	for m := 1; m <= api.MaxPoints; m++ {
		for n := 1; n <= api.MaxPoints; n++ {
			want := new(big.Int)
			for k := range min(m, n) {
				x := new(big.Int).Binomial(int64(m+n-2-k), int64(m-1))
				want.Add(want, x.Mul(x, new(big.Int).Binomial(int64(m-1), int64(k))))
			}
			if s := stepsOf(t, m, n); s != want.String() {
				t.Errorf("Steps(%d, %d) = %s, not %v", m, n, s, want)
			}
		}
	}
}

func TestStepsOfNoOutline(t *testing.T) {
	for _, n := range []int{0, -1, api.MaxPoints + 1, math.MaxInt, math.MinInt} {
		for _, p := range pairs(n, 1, 1, n, n, n, n, api.MaxPoints, api.MaxPoints, n) {
			if s, e := foot.Steps(p.A, p.B); e != api.ErrArg || s != "" {
				t.Errorf("Steps(%d, %d) = %s, %d", p.A, p.B, s, e)
			}
		}
	}
}

// every function of outlines, and which of its arguments it has
type function struct {
	name       string
	two, limit bool
	call       func(a, b []api.Point, limit int) (zero bool, e api.Errno)
}

func functions() []function {
	return []function{
		{"Hausdorff", true, false, func(a, b []api.Point, _ int) (bool, api.Errno) {
			d, e := foot.Hausdorff(a, b)
			return d == 0, e
		}},
		{"Farthest", true, false, func(a, b []api.Point, _ int) (bool, api.Errno) {
			l, e := foot.Farthest(a, b)
			return len(l) == 0, e
		}},
		{"Frechet", true, false, func(a, b []api.Point, _ int) (bool, api.Errno) {
			d, e := foot.Frechet(a, b)
			return d == 0, e
		}},
		{"Walk", true, false, func(a, b []api.Point, _ int) (bool, api.Errno) {
			l, e := foot.Walk(a, b)
			return len(l) == 0, e
		}},
		{"Within", true, true, func(a, b []api.Point, limit int) (bool, api.Errno) {
			is, e := foot.Within(a, b, limit)
			return !is, e
		}},
		{"Turned", true, false, func(a, b []api.Point, _ int) (bool, api.Errno) {
			d, k, e := foot.Turned(a, b)
			return d == 0 && k == 0, e
		}},
		{"Warp", true, false, func(a, b []api.Point, _ int) (bool, api.Errno) {
			d, l, e := foot.Warp(a, b)
			return d == 0 && len(l) == 0, e
		}},
		{"Short", false, true, func(a, _ []api.Point, limit int) (bool, api.Errno) {
			l, e := foot.Short(a, limit)
			return len(l) == 0, e
		}},
	}
}

func (f function) refuses(t *testing.T, a, b []api.Point, limit int, want api.Errno) {
	t.Helper()
	if zero, e := f.call(a, b, limit); e != want || e != api.OK && !zero {
		t.Errorf("%s(%v, %v, %d): %d, not %d; zero %t", f.name, a, b, limit, e, want, zero)
	}
}

// refuseAs wants the error of an outline, whichever one it is.
func refuseAs(t *testing.T, o []api.Point, limit int, want api.Errno) {
	t.Helper()
	good := points(1, 2, 3, 4)
	for _, f := range functions() {
		f.refuses(t, o, good, limit, want)
		if f.two {
			f.refuses(t, good, o, limit, want)
			f.refuses(t, o, o, limit, want)
		}
	}
}

func TestLong(t *testing.T) {
	refuseAs(t, make([]api.Point, api.MaxPoints), 0, api.OK)
	for _, n := range []int{api.MaxPoints + 1, 2 * api.MaxPoints, 5000} {
		refuseAs(t, make([]api.Point, n), 0, api.ErrLong)
	}
}

func TestMalformed(t *testing.T) {
	refuseAs(t, nil, 0, api.ErrForm)
	refuseAs(t, []api.Point{}, 0, api.ErrForm)
	for _, x := range []int{-api.MaxPlace - 1, api.MaxPlace + 1, math.MinInt, math.MaxInt} {
		for _, bad := range points(x, 0, 0, x, x, x) {
			for _, o := range [][]api.Point{{bad}, append(points(0, 0, 1, 1), bad), append([]api.Point{bad}, points(0, 0)...)} {
				refuseAs(t, o, 0, api.ErrForm)
			}
		}
	}
	most := points(api.MaxPlace, -api.MaxPlace, -api.MaxPlace, api.MaxPlace)
	refuseAs(t, most, 0, api.OK)
}

func TestLimitBelowZero(t *testing.T) {
	a := points(0, 0, 1, 1)
	for _, f := range functions() {
		for _, limit := range []int{-1, math.MinInt} {
			if f.limit {
				f.refuses(t, a, a, limit, api.ErrArg)
			}
		}
		f.refuses(t, a, a, 0, api.OK)
	}
}

// R2
func TestOrderOfErrors(t *testing.T) {
	good := points(0, 0)
	long, bad := make([]api.Point, api.MaxPoints+1), points(0, api.MaxPlace+1)
	both := append(slices.Clone(bad), long...)
	for _, f := range functions() {
		f.refuses(t, both, good, -1, api.ErrLong)
		f.refuses(t, long, good, -1, api.ErrLong)
		f.refuses(t, bad, good, -1, api.ErrForm)
		f.refuses(t, nil, good, -1, api.ErrForm)
		if f.two {
			f.refuses(t, bad, long, -1, api.ErrLong)
			f.refuses(t, nil, long, -1, api.ErrLong)
			f.refuses(t, long, bad, -1, api.ErrLong)
			f.refuses(t, good, both, -1, api.ErrLong)
			f.refuses(t, good, bad, -1, api.ErrForm)
			f.refuses(t, good, nil, -1, api.ErrForm)
		}
	}
}
