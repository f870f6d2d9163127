package gait_test

import (
	"math"
	"math/big"
	"slices"
	"strings"
	"testing"

	"pritchel/api"
	"pritchel/gait"
)

func TestExamples(t *testing.T) {
	if l := likeOf(t, "++-"); !slices.Equal(l, []int{3, 0, -1}) {
		t.Errorf("Like = %v", l)
	}
	if x := meritOf(t, "++-"); x != "9/2" {
		t.Errorf("Merit = %s", x)
	}
	if s, e := gait.Barker(3); s != "++-" || e != api.OK {
		t.Errorf("Barker = %s, %d", s, e)
	}
	if s, e := gait.Barker(6); s != "" || e != api.ErrNone {
		t.Errorf("Barker = %s, %d", s, e)
	}
	if s, u, e := gait.Golay(2); s != "++" || u != "+-" || e != api.OK {
		t.Errorf("Golay = %s, %s, %d", s, u, e)
	}
	if s, u := doubleOf(t, "++", "+-"); s != "+++-" || u != "++-+" {
		t.Errorf("Double = %s, %s", s, u)
	}
	if s := legendreOf(t, 3); s != "++-" {
		t.Errorf("Legendre = %s", s)
	}
	if m := paleyOf(t, 3); !slices.Equal(m, []string{"++++", "-++-", "--++", "-+-+"}) {
		t.Errorf("Paley = %s", m)
	}
	if l := transformOf(t, []int{1, 0}); !slices.Equal(l, []int{1, 1}) {
		t.Errorf("Transform = %v", l)
	}
}

func TestLike(t *testing.T) {
	each(func(s string) {
		if l := likeOf(t, s); !slices.Equal(l, like(s)) {
			t.Errorf("Like(%s) = %v, not %v", s, l, like(s))
		}
		if l := aroundOf(t, s); !slices.Equal(l, around(s)) {
			t.Errorf("Around(%s) = %v, not %v", s, l, around(s))
		}
	})
}

func TestMerit(t *testing.T) {
	each(func(s string) {
		if len(s) == 1 {
			if x, e := gait.Merit(s); x != "" || e != api.ErrNone {
				t.Errorf("Merit(%s) = %s, %d", s, x, e)
			}
			return
		}
		if x := meritOf(t, s); string(x) != merit(s).RatString() {
			t.Errorf("Merit(%s) = %s, not %s", s, x, merit(s).RatString())
		}
	})
	for s, want := range map[string]api.Num{"++": "2", "+-": "2", "+++-": "4", "+++++--++-+-+": "169/12", strings.Repeat("+", 64): num(64*64, 2*85344)} {
		if x := meritOf(t, s); x != want {
			t.Errorf("Merit(%s) = %s, not %s", s, x, want)
		}
	}
}

func num(top, bottom int64) api.Num {
	return api.Num(big.NewRat(top, bottom).RatString())
}

func TestBarker(t *testing.T) {
	for n := 1; n <= api.MaxBarker; n++ {
		all := allRows(n)
		if i := slices.IndexFunc(all, isBarker); i >= 0 {
			if s, e := gait.Barker(n); s != all[i] || e != api.OK {
				t.Errorf("Barker(%d) = %s, %d, not %s", n, s, e, all[i])
			}
		} else if s, e := gait.Barker(n); s != "" || e != api.ErrNone {
			t.Errorf("Barker(%d) = %s, %d", n, s, e)
		}
	}
	if s, e := gait.Barker(13); s != "+++++--++-+-+" || e != api.OK {
		t.Errorf("Barker(13) = %s, %d", s, e)
	}
}

func TestIsGolay(t *testing.T) {
	for n := 1; n <= 6; n++ {
		for _, s := range allRows(n) {
			for _, u := range allRows(n) {
				if is := isGolayOf(t, s, u); is != isGolay(s, u) {
					t.Errorf("IsGolay(%s, %s) = %t", s, u, is)
				}
			}
		}
	}
	r := sequence(4)
	for n := 7; n <= api.MaxSigns; n++ {
		for range 20 {
			s, u := r.row(n), r.row(n)
			if is := isGolayOf(t, s, u); is != isGolay(s, u) {
				t.Errorf("IsGolay(%s, %s) = %t", s, u, is)
			}
		}
	}
}

// One sign of a long pair makes it none.
func TestIsGolayOfLongRows(t *testing.T) {
	eachPair(t, func(s, u string) {
		if !isGolayOf(t, s, u) {
			t.Errorf("IsGolay(%s, %s) = false", s, u)
		}
		for i := range len(s) {
			other := s[:i] + changed(s[i:i+1]) + s[i+1:]
			if is := isGolayOf(t, other, u); is != isGolay(other, u) {
				t.Errorf("IsGolay(%s, %s) = %t", other, u, is)
			}
		}
	})
}

// eachPair goes through Golay pairs: by the definition those that are short, and longer ones, up to the longest.
func eachPair(t *testing.T, f func(s, u string)) {
	t.Helper()
	for _, n := range []int{1, 2, 4, 8, 10} {
		s, u := golay(n)
		f(s, u)
		f(u, s)
		for 2*len(s) <= api.MaxSigns {
			s, u = s+u, s+changed(u)
			if !isGolay(s, u) {
				t.Fatalf("%s, %s is no pair", s, u)
			}
			f(s, u)
		}
	}
	for _, s := range allRows(4) {
		for _, u := range allRows(4) {
			if isGolay(s, u) {
				f(s, u)
			}
		}
	}
}

func TestGolay(t *testing.T) {
	for n := 1; n <= api.MaxGolay; n++ {
		a, b := golay(n)
		want := api.OK
		if a == "" {
			want = api.ErrNone
		}
		if s, u, e := gait.Golay(n); s != a || u != b || e != want {
			t.Errorf("Golay(%d) = %s, %s, %d, not %s, %s, %d", n, s, u, e, a, b, want)
		}
	}
}

func TestDouble(t *testing.T) {
	for n := 1; n <= 4; n++ {
		for _, s := range allRows(n) {
			for _, u := range allRows(n) {
				if a, b := doubleOf(t, s, u); a != s+u || b != s+changed(u) {
					t.Errorf("Double(%s, %s) = %s, %s", s, u, a, b)
				}
			}
		}
	}
	r := sequence(5)
	for n := 5; n <= api.MaxSigns/2; n++ {
		s, u := r.row(n), r.row(n)
		if a, b := doubleOf(t, s, u); a != s+u || b != s+changed(u) {
			t.Errorf("Double(%s, %s) = %s, %s", s, u, a, b)
		}
	}
}

func oddPrimes() []int {
	return []int{3, 5, 7, 11, 13, 17, 19, 23, 29, 31, 37, 41, 43, 47, 53, 59, 61}
}

func TestLegendre(t *testing.T) {
	for _, p := range oddPrimes() {
		if s := legendreOf(t, p); s != legendre(p) {
			t.Errorf("Legendre(%d) = %s, not %s", p, s, legendre(p))
		}
	}
	if s := legendreOf(t, 11); s != "++-+++---+-" {
		t.Errorf("Legendre(11) = %s", s)
	}
}

func TestSylvester(t *testing.T) {
	for k := range 6 {
		if m := sylvesterOf(t, k); !slices.Equal(m, sylvester(k)) {
			t.Errorf("Sylvester(%d) = %s, not %s", k, m, sylvester(k))
		}
	}
	if m := sylvesterOf(t, 2); !slices.Equal(m, []string{"++++", "+-+-", "++--", "+--+"}) {
		t.Errorf("Sylvester(2) = %s", m)
	}
}

func TestPaley(t *testing.T) {
	for _, p := range []int{3, 7, 11, 19, 23, 31} {
		if m := paleyOf(t, p); !slices.Equal(m, paley(p)) {
			t.Errorf("Paley(%d) = %s, not %s", p, m, paley(p))
		}
	}
}

func TestRight(t *testing.T) {
	eachMatrix(func(m []string) {
		if is := rightOf(t, m); is != isRight(m) {
			t.Errorf("Right(%s) = %t", m, is)
		}
	})
}

func TestRightOfFour(t *testing.T) {
	count := 0
	for _, m := range allMatrices(4) {
		if rightOf(t, m) {
			count++
		}
	}
	// There are 16 rows, then 6 at right angles to one, 4 to two, and 2 to three.
	if count != 768 {
		t.Errorf("%d matrices of four rows are right", count)
	}
}

func TestNormal(t *testing.T) {
	eachMatrix(func(m []string) {
		if l := normalOf(t, m); !slices.Equal(l, normal(m)) {
			t.Errorf("Normal(%s) = %s, not %s", m, l, normal(m))
		}
	})
	if l := normalOf(t, []string{"-+", "++"}); !slices.Equal(l, []string{"++", "+-"}) {
		t.Errorf("Normal = %s", l)
	}
}

func TestTransform(t *testing.T) {
	eachList(func(l []int) {
		if sums := transformOf(t, l); !slices.Equal(sums, transform(l)) {
			t.Errorf("Transform(%v) = %v, not %v", l, sums, transform(l))
		}
	})
	if l := transformOf(t, []int{1, 2, 3, 4}); !slices.Equal(l, []int{10, -2, -4, 0}) {
		t.Errorf("Transform = %v", l)
	}
}

func TestBent(t *testing.T) {
	for n, want := range map[int]int{1: 2, 4: 8, 16: 896} {
		count := 0
		for _, s := range allRows(n) {
			is := bentOf(t, s)
			if is {
				count++
			}
			if n < 16 && is != isBent(s) {
				t.Errorf("Bent(%s) = %t", s, is)
			}
		}
		if count != want {
			t.Errorf("%d rows of %d signs are bent", count, n)
		}
	}
}

func TestBentOfLongRows(t *testing.T) {
	r := sequence(6)
	for range 30 {
		s := bent(&r)
		i := r.below(64)
		for _, s := range []string{s, s[:i] + changed(s[i:i+1]) + s[i+1:], r.row(64), r.row(16), strings.Repeat(s[:16], 4), strings.Repeat("-", 64)} {
			if is := bentOf(t, s); is != isBent(s) {
				t.Errorf("Bent(%s) = %t", s, is)
			}
		}
	}
}

// rowErrors returns the errors of all functions of one row.
func rowErrors(t *testing.T, s string) map[string]api.Errno {
	t.Helper()
	l, e1 := gait.Like(s)
	m, e2 := gait.Around(s)
	x, e3 := gait.Merit(s)
	is, e4 := gait.Bent(s)
	all := map[string]api.Errno{"Like": e1, "Around": e2, "Merit": e3, "Bent": e4}
	results := map[string]bool{"Like": len(l) > 0, "Around": len(m) > 0, "Merit": x != "", "Bent": is}
	for name, has := range results {
		if has && all[name] != api.OK {
			t.Errorf("%s(%.99q) has a result with error %d", name, s, all[name])
		}
	}
	return all
}

// pairErrors returns the errors of the functions of two rows.
func pairErrors(t *testing.T, s, u string) map[string]api.Errno {
	t.Helper()
	is, e1 := gait.IsGolay(s, u)
	a, b, e2 := gait.Double(s, u)
	if is && e1 != api.OK || a+b != "" && e2 != api.OK {
		t.Errorf("%.99q, %.99q have results with errors %d, %d: %t, %s, %s", s, u, e1, e2, is, a, b)
	}
	return map[string]api.Errno{"IsGolay": e1, "Double": e2}
}

// matrixErrors returns the errors of the functions of a matrix.
func matrixErrors(t *testing.T, m []string) map[string]api.Errno {
	t.Helper()
	is, e1 := gait.Right(m)
	l, e2 := gait.Normal(m)
	if is && e1 != api.OK || len(l) > 0 && e2 != api.OK {
		t.Errorf("%.99q has results with errors %d, %d: %t, %s", m, e1, e2, is, l)
	}
	return map[string]api.Errno{"Right": e1, "Normal": e2}
}

// expect compares errors with the one that all of them should be.
func expect(t *testing.T, what any, all map[string]api.Errno, want api.Errno) {
	t.Helper()
	for name, e := range all {
		if e != want {
			t.Errorf("%s(%.99q): error %d, not %d", name, what, e, want)
		}
	}
}

func malformedRows() []string {
	return []string{
		"", " ", "x", "0", "1", "+-x", "x+-", "+x-", "+ -", "+-\n", "\x00", "+\x00", "++\xff", "\xff", "\u2212", "+\u00b1", "\u00ad", "*", ",", ".", "++,-", "++++.",
		strings.Repeat("+", 63) + "x", "x" + strings.Repeat("-", 63), strings.Repeat(" ", 64),
	}
}

func longRows() []string {
	return []string{strings.Repeat("+", 65), strings.Repeat("-+", 33), strings.Repeat("x", 65), "x" + strings.Repeat("-", 64), strings.Repeat("+", 64) + "x", strings.Repeat("+-", 50000)}
}

func TestRowErrors(t *testing.T) {
	for _, s := range malformedRows() {
		expect(t, s, rowErrors(t, s), api.ErrForm)
		for _, u := range append(malformedRows(), "+", "+-", strings.Repeat("+", 32)) {
			if len(s) <= 32 {
				expect(t, []string{s, u}, pairErrors(t, s, u), api.ErrForm)
			}
			if len(u) <= 32 {
				expect(t, []string{u, s}, pairErrors(t, u, s), api.ErrForm)
			}
		}
	}
	for _, s := range longRows() {
		expect(t, s, rowErrors(t, s), api.ErrLong)
		for _, u := range slices.Concat(malformedRows(), longRows(), []string{"+", "+-", strings.Repeat("+", 32), strings.Repeat("+", 64)}) {
			expect(t, []string{s, u}, pairErrors(t, s, u), api.ErrLong)
			expect(t, []string{u, s}, pairErrors(t, u, s), api.ErrLong)
		}
	}
	for _, s := range []string{strings.Repeat("+", 64), strings.Repeat("-", 64), strings.Repeat("+-", 32)} {
		expect(t, s, rowErrors(t, s), api.OK)
	}
}

func TestPairsOfDifferentLengths(t *testing.T) {
	r := sequence(7)
	for m := 1; m <= api.MaxSigns; m++ {
		for n := 1; n <= api.MaxSigns; n++ {
			all, want := pairErrors(t, r.row(m), r.row(n)), api.ErrForm
			if m == n {
				want = api.OK
			}
			if all["IsGolay"] != want {
				t.Errorf("IsGolay of %d and %d signs: error %d", m, n, all["IsGolay"])
			}
			if m > 32 {
				want = api.ErrLong
			}
			if all["Double"] != want {
				t.Errorf("Double of %d and %d signs: error %d", m, n, all["Double"])
			}
		}
	}
	// More than 32 signs are too many, whatever else is wrong.
	for _, s := range []string{strings.Repeat("x", 33), strings.Repeat("+", 33), strings.Repeat("+", 63) + "x"} {
		for _, u := range append(malformedRows(), "+", s) {
			if a, b, e := gait.Double(s, u); a != "" || b != "" || e != api.ErrLong {
				t.Errorf("Double(%q, %q) = %s, %s, %d", s, u, a, b, e)
			}
		}
	}
}

func TestMatrixErrors(t *testing.T) {
	for _, m := range [][]string{
		nil, {}, {""}, {"++"}, {"+", "+"}, {"+-", "+"}, {"+", "+-"}, {"+-", ""}, {"", "+-"}, {"++-", "+++"}, {"++", "+-", "--"}, {"++", "+-", "+++"}, {"++", "+-", ""},
		{"x"}, {"+-", "+x"}, {"x-", "++"}, {"+\u2212", "+-"}, {"\u00b1", "+-"}, {"+\n", "--"}, {strings.Repeat("+", 64)}, {strings.Repeat("+", 32)},
		slices.Repeat([]string{""}, 32), slices.Repeat([]string{"+"}, 32), slices.Repeat([]string{strings.Repeat("+", 33)}, 32), slices.Repeat([]string{strings.Repeat("+", 31)}, 32),
	} {
		expect(t, m, matrixErrors(t, m), api.ErrForm)
	}
	for _, n := range []int{33, 34, 64, 65, 1000} {
		for _, s := range append(malformedRows(), "+", strings.Repeat("+", n)) {
			expect(t, n, matrixErrors(t, slices.Repeat([]string{s}, n)), api.ErrLong)
		}
	}
	for _, s := range longRows() {
		for _, m := range [][]string{{s}, {"++", s}, {s, "++"}, {"x", s}, {s, ""}, append(slices.Repeat([]string{"x"}, 31), s)} {
			expect(t, m, matrixErrors(t, m), api.ErrLong)
		}
	}
	for n := 1; n <= 32; n++ {
		m := slices.Repeat([]string{strings.Repeat("-", n)}, n)
		expect(t, m, matrixErrors(t, m), api.OK)
		m[n-1] = strings.Repeat("-", n-1) + "x"
		expect(t, m, matrixErrors(t, m), api.ErrForm)
	}
}

func TestNumbersOutOfRange(t *testing.T) {
	far := []int{-1, -2, -3, -7, 65, 67, 71, 100, 1 << 32, 1<<32 + 3, 1<<32 + 7, math.MinInt, math.MinInt + 1, math.MaxInt, math.MaxInt - 1}
	for _, n := range append(far, 0, 14, 15, 26) {
		if s, e := gait.Barker(n); s != "" || e != api.ErrArg {
			t.Errorf("Barker(%d) = %s, %d", n, s, e)
		}
	}
	for _, n := range append(far, 0, 11, 12, 16, 20) {
		if s, u, e := gait.Golay(n); s != "" || u != "" || e != api.ErrArg {
			t.Errorf("Golay(%d) = %s, %s, %d", n, s, u, e)
		}
	}
	for _, k := range append(far, 6, 7, 32, 64) {
		if m, e := gait.Sylvester(k); len(m) > 0 || e != api.ErrArg {
			t.Errorf("Sylvester(%d) = %s, %d", k, m, e)
		}
	}
	for p := range 70 {
		far = append(far, p)
	}
	for _, p := range far {
		if s, e := gait.Legendre(p); !slices.Contains(oddPrimes(), p) && (s != "" || e != api.ErrArg) {
			t.Errorf("Legendre(%d) = %s, %d", p, s, e)
		}
		if m, e := gait.Paley(p); !slices.Contains([]int{3, 7, 11, 19, 23, 31}, p) && (len(m) > 0 || e != api.ErrArg) {
			t.Errorf("Paley(%d) = %s, %d", p, m, e)
		}
	}
}

func TestListErrors(t *testing.T) {
	refuse := func(l []int, want api.Errno) {
		t.Helper()
		if sums, e := gait.Transform(l); len(sums) > 0 || e != want {
			t.Errorf("Transform(%v) = %v, %d, not %d", l, sums, e, want)
		}
	}
	for n := range 200 {
		want := api.ErrForm
		if n > 64 {
			want = api.ErrLong
		} else if slices.Contains([]int{1, 2, 4, 8, 16, 32, 64}, n) {
			want = api.ErrArg
		}
		for _, x := range []int{1000001, -1000001, math.MaxInt, math.MinInt} {
			refuse(slices.Repeat([]int{x}, n), want)
			l := make([]int, n)
			for _, i := range []int{0, n / 2, n - 1} {
				if i >= 0 && i < n {
					l[i] = x
					refuse(l, want)
					l[i] = 0
				}
			}
		}
		if want != api.ErrArg {
			refuse(make([]int, n), want)
		}
	}
}

func TestBentOfOtherLengths(t *testing.T) {
	for n := 1; n <= api.MaxSigns; n++ {
		want := api.ErrArg
		if n == 1 || n == 4 || n == 16 || n == 64 {
			want = api.OK
		}
		for _, s := range []string{strings.Repeat("+", n), strings.Repeat("-+", n)[:n]} {
			if is, e := gait.Bent(s); e != want || is && e != api.OK {
				t.Errorf("Bent(%s) = %t, %d", s, is, e)
			}
		}
		if is, e := gait.Bent(strings.Repeat("x", n)); is || e != api.ErrForm {
			t.Errorf("Bent of %d other letters = %t, %d", n, is, e)
		}
	}
}
