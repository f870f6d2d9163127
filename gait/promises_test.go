package gait_test

import (
	"slices"
	"strconv"
	"strings"
	"testing"

	"pritchel/api"
	"pritchel/gait"
)

// B1
func TestLengthsOfBarker(t *testing.T) {
	for n := 1; n <= api.MaxBarker; n++ {
		want := api.ErrNone
		if slices.Contains([]int{1, 2, 3, 4, 5, 7, 11, 13}, n) {
			want = api.OK
		}
		s, e := gait.Barker(n)
		if e != want {
			t.Errorf("Barker(%d): error %d, not %d", n, e, want)
		}
		if e != api.OK {
			continue
		}
		for k, x := range likeOf(t, s) {
			if k > 0 && (x < -1 || x > 1) {
				t.Errorf("Barker(%d) = %s has the likeness %d", n, s, x)
			}
		}
	}
}

// B2
func TestDoubleIsGolay(t *testing.T) {
	eachPair(t, func(s, u string) {
		if len(s) > api.MaxSigns/2 {
			return
		}
		if a, b := doubleOf(t, s, u); !isGolayOf(t, a, b) {
			t.Errorf("Double(%s, %s) = %s, %s is no pair", s, u, a, b)
		}
	})
	for n := 1; n <= api.MaxGolay; n++ {
		s, u, e := gait.Golay(n)
		for e == api.OK && len(s) <= api.MaxSigns {
			if !isGolayOf(t, s, u) {
				t.Errorf("%s, %s is no pair", s, u)
			}
			s, u, e = gait.Double(s, u)
		}
	}
}

// B2
func TestLengthsOfGolay(t *testing.T) {
	isSum := map[int]bool{}
	for i := range api.MaxSigns {
		for j := range api.MaxSigns {
			isSum[i*i+j*j] = true
		}
	}
	for n := 1; n <= api.MaxGolay; n++ {
		if s, u, e := gait.Golay(n); e == api.OK && !isSum[n] {
			t.Errorf("Golay(%d) = %s, %s", n, s, u)
		}
	}
	for n := range 7 {
		for _, s := range allRows(n) {
			for _, u := range allRows(n) {
				if is, _ := gait.IsGolay(s, u); is && !isSum[n] {
					t.Errorf("IsGolay(%s, %s)", s, u)
				}
			}
		}
	}
}

// B2
func TestGolayAnyhow(t *testing.T) {
	check := func(s, u string) {
		t.Helper()
		is := isGolayOf(t, s, u)
		for _, p := range [][2]string{{u, s}, {turned(s), u}, {s, turned(u)}, {changed(s), u}, {s, changed(u)}, {turned(u), changed(s)}} {
			if isGolayOf(t, p[0], p[1]) != is {
				t.Errorf("IsGolay(%s, %s) = %t, but not of %s", s, u, is, p)
			}
		}
	}
	eachPair(t, check)
	r := sequence(8)
	for n := 1; n <= api.MaxSigns; n++ {
		check(r.row(n), r.row(n))
	}
}

// B3
func TestLegendreAround(t *testing.T) {
	for _, p := range oddPrimes() {
		if p%4 != 3 {
			continue
		}
		want := slices.Repeat([]int{-1}, p)
		want[0] = p
		if l := aroundOf(t, legendreOf(t, p)); !slices.Equal(l, want) {
			t.Errorf("Around(Legendre(%d)) = %v", p, l)
		}
	}
}

// B4
func TestKnownMatricesAreRight(t *testing.T) {
	for k := range 6 {
		if m := sylvesterOf(t, k); len(m) != 1<<k || !rightOf(t, m) {
			t.Errorf("Sylvester(%d) = %s", k, m)
		}
	}
	for _, p := range []int{3, 7, 11, 19, 23, 31} {
		if m := paleyOf(t, p); len(m) != p+1 || !rightOf(t, m) {
			t.Errorf("Paley(%d) = %s", p, m)
		}
	}
}

// B4
func TestRowsOfRightMatrices(t *testing.T) {
	eachMatrix(func(m []string) {
		if n := len(m); n > 2 && n%4 != 0 && rightOf(t, m) {
			t.Errorf("Right(%s)", m)
		}
	})
	// Corners of right matrices come near to it.
	for _, m := range [][]string{sylvester(5), paley(31), paley(23)} {
		for n := 3; n < len(m); n++ {
			corner := slices.Clone(m[:n])
			for i := range corner {
				corner[i] = corner[i][:n]
			}
			if n%4 != 0 && rightOf(t, corner) {
				t.Errorf("Right(%s)", corner)
			}
		}
	}
}

// B5
func TestRightAnyhow(t *testing.T) {
	r := sequence(9)
	eachRight(func(m []string) {
		n := len(m)
		i, j := r.below(n), r.below(n)
		exchanged, row, column := slices.Clone(m), slices.Clone(m), slices.Clone(m)
		exchanged[i], exchanged[j] = m[j], m[i]
		row[i] = changed(m[i])
		for k, s := range m {
			column[k] = s[:j] + changed(s[j:j+1]) + s[j+1:]
		}
		for what, l := range map[string][]string{"columns": columns(m), "exchanged rows": exchanged, "changed row": row, "changed column": column, "Normal": normalOf(t, m)} {
			if !rightOf(t, l) {
				t.Errorf("%s is right, but not with %s: %s", m, what, l)
			}
		}
	})
}

// B5
func TestNormalIsPlain(t *testing.T) {
	eachMatrix(func(m []string) {
		l := normalOf(t, m)
		if plain := strings.Repeat("+", len(m)); l[0] != plain || columns(l)[0] != plain {
			t.Errorf("Normal(%s) = %s", m, l)
		}
		if again := normalOf(t, l); !slices.Equal(again, l) {
			t.Errorf("Normal(%s) = %s", l, again)
		}
		if rightOf(t, m) != rightOf(t, l) {
			t.Errorf("Right(%s) = %t, but not of %s", m, rightOf(t, m), l)
		}
	})
}

func sumOfSquares(l []int) int {
	sum := 0
	for _, x := range l {
		sum += x * x
	}
	return sum
}

// B6
func TestTransformTwice(t *testing.T) {
	eachList(func(l []int) {
		n := len(l)
		sums := transformOf(t, l)
		if sumOfSquares(sums) != n*sumOfSquares(l) {
			t.Errorf("Transform(%v) = %v", l, sums)
		}
		if slices.ContainsFunc(sums, func(x int) bool { return x < -1000000 || x > 1000000 }) {
			return
		}
		var want []int
		for _, x := range l {
			want = append(want, n*x)
		}
		if twice := transformOf(t, sums); !slices.Equal(twice, want) {
			t.Errorf("Transform(%v) = %v, not %v", sums, twice, want)
		}
	})
}

// B7
func TestTransformOfBent(t *testing.T) {
	r := sequence(10)
	all := slices.Concat(allRows(1), allRows(4), allRows(16))
	for range 50 {
		all = append(all, bent(&r))
	}
	for _, s := range all {
		if !bentOf(t, s) {
			continue
		}
		var signs []int
		for _, x := range transformOf(t, signsOf(s)) {
			sign := 1
			if x < 0 {
				sign = -1
			}
			signs = append(signs, sign)
		}
		if u := written(signs); !bentOf(t, u) {
			t.Errorf("%s is bent, but not %s", s, u)
		}
	}
}

// B8
func TestAroundIsSum(t *testing.T) {
	each(func(s string) {
		n, single, both := len(s), likeOf(t, s), aroundOf(t, s)
		sum, signs := both[0], 0
		for k := 1; k < n; k++ {
			sum += both[k]
			if both[k] != single[k]+single[n-k] {
				t.Errorf("Like(%s) = %v, Around = %v", s, single, both)
			}
		}
		for _, x := range signsOf(s) {
			signs += x
		}
		if both[0] != n || single[0] != n || sum != signs*signs {
			t.Errorf("Like(%s) = %v, Around = %v", s, single, both)
		}
	})
}

// B9
func TestLikeChanged(t *testing.T) {
	absolute := func(s string) []int {
		l := likeOf(t, s)
		for i, x := range l {
			l[i] = max(x, -x)
		}
		return l
	}
	each(func(s string) {
		want := absolute(s)
		for _, u := range []string{turned(s), changed(s), everySecond(s, 0), everySecond(s, 1), turned(everySecond(s, 1))} {
			if l := absolute(u); !slices.Equal(l, want) {
				t.Errorf("likenesses of %s: %v, of %s: %v", s, want, u, l)
			}
		}
		if len(s) > 1 && (meritOf(t, turned(s)) != meritOf(t, s) || meritOf(t, everySecond(s, 1)) != meritOf(t, s)) {
			t.Errorf("Merit(%s) = %s, but not that of the row turned or changed", s, meritOf(t, s))
		}
	})
}

// results returns what all functions return for a row of 4, 16 or 64 signs, a matrix and a list.
func results(t *testing.T, s string, m []string, l []int) []string {
	t.Helper()
	a, b := doubleOf(t, s[:len(s)/2], s[len(s)/2:])
	texts := slices.Concat([]string{string(meritOf(t, s)), a, b}, normalOf(t, m))
	for _, is := range []bool{rightOf(t, m), bentOf(t, s), isGolayOf(t, s, changed(s))} {
		texts = append(texts, strconv.FormatBool(is))
	}
	for n := 1; n <= 13; n++ {
		row, _ := gait.Barker(n)
		one, other, _ := gait.Golay(n)
		texts = append(texts, row, one, other)
	}
	for _, numbers := range [][]int{likeOf(t, s), aroundOf(t, s), transformOf(t, l)} {
		texts = append(texts, numbersText(numbers))
	}
	return slices.Concat(texts, []string{legendreOf(t, 7)}, paleyOf(t, 11), sylvesterOf(t, 3))
}

// R5 and R6: arguments stay as they are, also behind their ends, and results depend on them alone.
func TestArguments(t *testing.T) {
	r := sequence(11)
	for _, n := range []int{4, 16, 64} {
		s, m, l := r.row(n), r.matrix(min(n, api.MaxOrder)), r.numbers(n, 1000000)
		longMatrix := append(slices.Clone(m), "x", "+")
		longList := append(slices.Clone(l), 7, 8)
		matrixBefore, listBefore := slices.Clone(longMatrix), slices.Clone(longList)
		want := results(t, s, m, l)
		if got := results(t, s, longMatrix[:len(m)], longList[:n]); !slices.Equal(got, want) {
			t.Errorf("%s, %s, %v: %s, then %s", s, m, l, want, got)
		}
		if !slices.Equal(longMatrix, matrixBefore) || !slices.Equal(longList, listBefore) {
			t.Fatalf("arguments were changed from %s, %v to %s, %v", matrixBefore, listBefore, longMatrix, longList)
		}
		if got := results(t, strings.Clone(s), m, l); !slices.Equal(got, want) {
			t.Errorf("%s, %s, %v: %s, then %s", s, m, l, want, got)
		}
	}
}

// What is done to a result is seen in no argument, and in no other result.
func TestResultsApart(t *testing.T) {
	s, m, l := "+++-", []string{"++", "+-"}, []int{5}
	want := results(t, s, m, l)
	for _, numbers := range [][]int{likeOf(t, s), aroundOf(t, s), transformOf(t, l)} {
		clear(numbers[:cap(numbers)])
	}
	for _, rows := range [][]string{normalOf(t, m), paleyOf(t, 11), sylvesterOf(t, 3)} {
		clear(rows[:cap(rows)])
	}
	if !slices.Equal(m, []string{"++", "+-"}) || l[0] != 5 {
		t.Fatalf("arguments were changed to %s, %v", m, l)
	}
	if got := results(t, s, m, l); !slices.Equal(got, want) {
		t.Errorf("%s, then %s", want, got)
	}
}

// R4: no rows are no matrix, and no numbers no list that can be transformed.
func TestNilAndEmpty(t *testing.T) {
	for _, m := range [][]string{nil, {}, []string{"+"}[:0]} {
		expect(t, m, matrixErrors(t, m), api.ErrForm)
	}
	for _, l := range [][]int{nil, {}, []int{1}[:0]} {
		if sums, e := gait.Transform(l); len(sums) > 0 || e != api.ErrForm {
			t.Errorf("Transform(%v) = %v, %d", l, sums, e)
		}
	}
}
