package foot_test

import (
	"math"
	"math/big"
	"slices"
	"testing"

	"pritchel/api"
	"pritchel/foot"
)

// F1
func TestBetween(t *testing.T) {
	each(func(a, b []api.Point) {
		h, f, walk := hausdorffOf(t, a, b), frechetOf(t, a, b), walkOf(t, a, b)
		if d, _ := warpOf(t, a, b); h > f || f > d || d > f*len(walk) {
			t.Errorf("%v and %v: Hausdorff %d, Frechet %d, Warp %d, Walk %v", a, b, h, f, d, walk)
		}
	})
}

// rootsFit reports whether the root of x is at most the sum of the roots of y and z.
func rootsFit(x, y, z int) bool {
	rest := x - y - z
	return rest <= 0 || rest*rest <= 4*y*z
}

// F2
func TestThree(t *testing.T) {
	r := sequence(5)
	for _, far := range []int{1, 2, 5, api.MaxPlace} {
		for range 100 {
			a := r.outline(1+r.below(6), far)
			b := r.beside(a, 3)
			c := r.beside(b, 3)
			if r.below(2) == 0 {
				c = r.outline(1+r.below(6), far)
			}
			if x, y, z := hausdorffOf(t, a, c), hausdorffOf(t, a, b), hausdorffOf(t, b, c); !rootsFit(x, y, z) {
				t.Errorf("%v, %v, %v: Hausdorff %d, though %d and %d", a, b, c, x, y, z)
			}
			if x, y, z := frechetOf(t, a, c), frechetOf(t, a, b), frechetOf(t, b, c); !rootsFit(x, y, z) {
				t.Errorf("%v, %v, %v: Frechet %d, though %d and %d", a, b, c, x, y, z)
			}
		}
	}
}

// F3
func TestBothWays(t *testing.T) {
	each(func(a, b []api.Point) {
		h, f := hausdorffOf(t, a, b), frechetOf(t, a, b)
		d, _ := warpOf(t, a, b)
		for _, o := range [][2][]api.Point{{b, a}, {backwards(a), backwards(b)}, {backwards(b), backwards(a)}} {
			if x := hausdorffOf(t, o[0], o[1]); x != h {
				t.Errorf("Hausdorff(%v, %v) = %d, not %d", o[0], o[1], x, h)
			}
			if x := frechetOf(t, o[0], o[1]); x != f {
				t.Errorf("Frechet(%v, %v) = %d, not %d", o[0], o[1], x, f)
			}
			if x, _ := warpOf(t, o[0], o[1]); x != d {
				t.Errorf("Warp(%v, %v) = %d, not %d", o[0], o[1], x, d)
			}
		}
	})
}

func changed(o []api.Point, change func(p api.Point) api.Point) []api.Point {
	var l []api.Point
	for _, p := range o {
		l = append(l, change(p))
	}
	return l
}

// measures returns all results about two outlines, distances times k.
func measures(t *testing.T, a, b []api.Point, limit, k int) [][]int {
	t.Helper()
	turnedBy, turn := turnedOf(t, a, b)
	d, warp := warpOf(t, a, b)
	l := [][]int{{k * hausdorffOf(t, a, b), k * frechetOf(t, a, b), k * turnedBy, turn, k * d}, farthestOf(t, a, b), shortOf(t, a, limit)}
	for _, p := range slices.Concat(walkOf(t, a, b), warp) {
		l = append(l, []int{p.A, p.B})
	}
	return l
}

func sameMeasures(l, m [][]int) bool {
	return slices.EqualFunc(l, m, func(x, y []int) bool { return slices.Equal(x, y) })
}

// F4
func TestMoved(t *testing.T) {
	changes := []func(p api.Point) api.Point{
		func(p api.Point) api.Point { return api.Point{X: p.X + 100, Y: p.Y - 900} },
		func(p api.Point) api.Point { return api.Point{X: -p.Y, Y: p.X} },
		func(p api.Point) api.Point { return api.Point{X: p.Y, Y: -p.X} },
		func(p api.Point) api.Point { return api.Point{X: -p.X, Y: -p.Y} },
		func(p api.Point) api.Point { return api.Point{X: -p.X, Y: p.Y} },
		func(p api.Point) api.Point { return api.Point{X: p.Y, Y: p.X} },
	}
	r := sequence(6)
	for _, far := range []int{1, 5, 80} {
		for range 40 {
			a, b, limit := r.outline(1+r.below(8), far), r.outline(1+r.below(8), far), r.below(far*far)
			want := measures(t, a, b, limit, 1)
			for i, change := range changes {
				if l := measures(t, changed(a, change), changed(b, change), limit, 1); !sameMeasures(l, want) {
					t.Errorf("%v and %v: %v, but %v after change %d", a, b, want, l, i)
				}
			}
			for _, k := range []int{2, 3, 12} {
				size := func(p api.Point) api.Point { return api.Point{X: k * p.X, Y: k * p.Y} }
				want := measures(t, a, b, limit, k*k)
				if l := measures(t, changed(a, size), changed(b, size), k*k*limit, 1); !sameMeasures(l, want) {
					t.Errorf("%v and %v: %v, but %v when sized by %d", a, b, want, l, k)
				}
			}
		}
	}
}

// F5
func TestSame(t *testing.T) {
	r := sequence(7)
	for range 300 {
		o := r.outline(1+r.below(5), 1)
		a, b := r.twice(o), r.twice(o)
		if d := frechetOf(t, a, b); d != 0 {
			t.Errorf("Frechet(%v, %v) = %d", a, b, d)
		}
		b = r.twice(r.outline(1+r.below(5), 1))
		once := slices.Equal(slices.Compact(slices.Clone(a)), slices.Compact(slices.Clone(b)))
		if d := frechetOf(t, a, b); (d == 0) != once {
			t.Errorf("Frechet(%v, %v) = %d", a, b, d)
		}
	}
}

// F6
func TestWithin(t *testing.T) {
	each(func(a, b []api.Point) {
		f := frechetOf(t, a, b)
		for _, limit := range []int{0, f / 2, max(0, f-1), f, f + 1, 2*f + 2, math.MaxInt} {
			if is := withinOf(t, a, b, limit); is != (limit >= f) {
				t.Errorf("Within(%v, %v, %d) = %t, but Frechet %d", a, b, limit, is, f)
			}
		}
	})
}

// F7
func TestShortIsWithin(t *testing.T) {
	r := sequence(8)
	for range 60 {
		far := 1 + r.below(9)
		a := r.twice(r.outline(1+r.below(10), far))
		fewest := len(a)
		for limit := range 8*far*far + 2 {
			form := shortOf(t, a, limit)
			var o []api.Point
			for _, i := range form {
				o = append(o, a[i])
			}
			if !withinOf(t, o, a, limit) || !isShort(a, form, limit) {
				t.Fatalf("Short(%v, %d) = %v", a, limit, form)
			}
			if len(form) > fewest {
				t.Errorf("Short(%v, %d) = %v, though there were %d before", a, limit, form, fewest)
			}
			fewest = len(form)
		}
		if fewest > 2 {
			t.Errorf("Short(%v) has %d indices, however great the limit", a, fewest)
		}
	}
}

// F8
func TestTurnedAnyhow(t *testing.T) {
	each(func(a, b []api.Point) {
		d, _ := turnedOf(t, a, b)
		if f := frechetOf(t, a, b); d > f {
			t.Errorf("Turned(%v, %v) = %d, Frechet %d", a, b, d, f)
		}
		for k := range b {
			if x, _ := turnedOf(t, a, turned(b, k)); x != d {
				t.Errorf("Turned(%v, %v) = %d, but %d when it is turned by %d before", a, b, d, x, k)
			}
			if x, _ := turnedOf(t, b, turned(b, k)); x != 0 {
				t.Errorf("Turned(%v) = %d, when it is turned by %d", b, x, k)
			}
		}
	})
}

// F9
func TestStepsAddUp(t *testing.T) {
	for m := 2; m <= api.MaxPoints; m++ {
		if k := stepsOf(t, m, 1) + stepsOf(t, 1, m); k != "11" {
			t.Errorf("Steps(%d, 1) and Steps(1, %d): %s", m, m, k)
		}
		for n := 2; n <= api.MaxPoints; n++ {
			want := new(big.Int)
			for _, p := range pairs(m-1, n, m, n-1, m-1, n-1) {
				x, is := new(big.Int).SetString(stepsOf(t, p.A, p.B), 10)
				if !is {
					t.Fatalf("Steps(%d, %d) = %s", p.A, p.B, stepsOf(t, p.A, p.B))
				}
				want.Add(want, x)
			}
			if s := stepsOf(t, m, n); s != want.String() {
				t.Errorf("Steps(%d, %d) = %s, not %v", m, n, s, want)
			}
		}
	}
}

// R5 and R6: arguments stay as they are, also behind their ends, and results depend on them alone and share no memory.
func TestArguments(t *testing.T) {
	r := sequence(9)
	for range 50 {
		a, b := r.outline(1+r.below(6), 4), r.outline(1+r.below(6), 4)
		long := r.outline(12, 4)
		copy(long, a)
		copy(long[6:], b)
		before := slices.Clone(long)
		want := measures(t, a, b, 3, 1)
		if l := measures(t, long[:len(a)], long[6:6+len(b)], 3, 1); !sameMeasures(l, want) {
			t.Errorf("%v and %v: %v, then %v", a, b, want, l)
		}
		if !slices.Equal(long, before) {
			t.Fatalf("arguments were changed from %v to %v", before, long)
		}
		if l := measures(t, a, b, 3, 1); !sameMeasures(l, want) {
			t.Errorf("%v and %v: %v, then %v", a, b, want, l)
		}
	}
}

// Two slices of the same outline are two outlines.
func TestOutlinesOverlap(t *testing.T) {
	o := sequenceOutline(8)
	for k := range o {
		a, b := o[k:], o[:k+1]
		want := measures(t, slices.Clone(a), slices.Clone(b), 3, 1)
		if l := measures(t, a, b, 3, 1); !sameMeasures(l, want) {
			t.Errorf("%v and %v: %v, not %v", a, b, l, want)
		}
	}
}

func sequenceOutline(n int) []api.Point {
	r := sequence(10)
	return r.outline(n, 3)
}

// What is done to a result is seen in no other one.
func TestResultsApart(t *testing.T) {
	a, b := sequenceOutline(6), sequenceOutline(7)[1:]
	want := measures(t, a, b, 3, 1)
	_, warp := warpOf(t, a, b)
	for _, l := range [][]api.Pair{walkOf(t, a, b), warp} {
		for i := range l {
			l[i] = api.Pair{A: -1, B: -1}
		}
	}
	for _, l := range [][]int{farthestOf(t, a, b), shortOf(t, a, 3)} {
		for i := range l {
			l[i] = -1
		}
	}
	if l := measures(t, a, b, 3, 1); !sameMeasures(l, want) {
		t.Errorf("%v, then %v", want, l)
	}
}

// R4
func TestNilAndEmpty(t *testing.T) {
	one := points(0, 0)
	for _, f := range functions() {
		for _, o := range [][]api.Point{nil, {}, one[:0]} {
			f.refuses(t, o, one, 0, api.ErrForm)
			f.refuses(t, o, o, 0, api.ErrForm)
		}
	}
	if _, e := foot.Short([]api.Point{}, -1); e != api.ErrForm {
		t.Errorf("Short: %d", e)
	}
}
