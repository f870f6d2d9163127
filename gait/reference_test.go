package gait_test

import (
	"math/big"
	"slices"
	"strconv"
	"strings"
	"testing"

	"pritchel/api"
	"pritchel/gait"
)

// This file works by the definitions of the chapter, as slowly and plainly as they are written, and makes cases.

// signsOf returns what the signs of a row mean.
func signsOf(s string) []int {
	var l []int
	for _, letter := range s {
		l = append(l, map[rune]int{'+': 1, '-': -1}[letter])
	}
	return l
}

// written returns the row of signs.
func written(signs []int) string {
	s := ""
	for _, x := range signs {
		s += map[int]string{1: "+", -1: "-"}[x]
	}
	return s
}

func like(s string) []int {
	signs, n := signsOf(s), len(s)
	l := make([]int, n)
	for k := range n {
		for i := 0; i <= n-1-k; i++ {
			l[k] += signs[i] * signs[i+k]
		}
	}
	return l
}

func around(s string) []int {
	signs, n := signsOf(s), len(s)
	l := make([]int, n)
	for k := range n {
		for i := range n {
			l[k] += signs[i] * signs[(i+k)%n]
		}
	}
	return l
}

func merit(s string) *big.Rat {
	sum := int64(0)
	for k, x := range like(s) {
		if k > 0 {
			sum += int64(x * x)
		}
	}
	return big.NewRat(int64(len(s)*len(s)), 2*sum)
}

func isBarker(s string) bool {
	return !slices.ContainsFunc(like(s)[1:], func(x int) bool { return x < -1 || x > 1 })
}

func isGolay(s, t string) bool {
	a, b := like(s), like(t)
	for k := 1; k < len(s); k++ {
		if a[k]+b[k] != 0 {
			return false
		}
	}
	return true
}

// golay returns the first Golay pair of n signs, or "": a row goes with those whose likenesses, but for the first one, are opposite.
func golay(n int) (string, string) {
	first := map[string]string{}
	for _, t := range allRows(n) {
		key := numbersText(negative(like(t)[1:]))
		if first[key] == "" {
			first[key] = t
		}
	}
	for _, s := range allRows(n) {
		if t := first[numbersText(like(s)[1:])]; t != "" {
			return s, t
		}
	}
	return "", ""
}

func negative(l []int) []int {
	var m []int
	for _, x := range l {
		m = append(m, -x)
	}
	return m
}

func numbersText(l []int) string {
	var words []string
	for _, x := range l {
		words = append(words, strconv.Itoa(x))
	}
	return strings.Join(words, " ")
}

// isSquare reports whether i is some j*j modulo p.
func isSquare(i, p int) bool {
	for j := range p {
		if (j*j-i)%p == 0 {
			return true
		}
	}
	return false
}

func legendre(p int) string {
	s := "+"
	for i := 1; i < p; i++ {
		if isSquare(i, p) {
			s += "+"
		} else {
			s += "-"
		}
	}
	return s
}

// common returns how many bits two numbers both have.
func common(i, j int) int {
	count := 0
	for ; i > 0 && j > 0; i, j = i/2, j/2 {
		count += i % 2 * (j % 2)
	}
	return count
}

func sylvester(k int) []string {
	var m []string
	n := 1
	for range k {
		n *= 2
	}
	for i := range n {
		s := ""
		for j := range n {
			if common(i, j)%2 == 1 {
				s += "-"
			} else {
				s += "+"
			}
		}
		m = append(m, s)
	}
	return m
}

func paley(p int) []string {
	m := []string{strings.Repeat("+", p+1)}
	for i := 1; i <= p; i++ {
		s := "-"
		for j := 1; j <= p; j++ {
			if i == j {
				s += "+"
			} else {
				s += legendre(p)[(j-i+p)%p:][:1]
			}
		}
		m = append(m, s)
	}
	return m
}

func isRight(m []string) bool {
	for i, s := range m {
		for j, t := range m {
			sum := 0
			for k := range s {
				sum += signsOf(s)[k] * signsOf(t)[k]
			}
			if i != j && sum != 0 {
				return false
			}
		}
	}
	return true
}

func normal(m []string) []string {
	var signs [][]int
	for _, s := range m {
		signs = append(signs, signsOf(s))
	}
	for j, sign := range slices.Clone(signs[0]) {
		for i := range signs {
			signs[i][j] *= sign
		}
	}
	var l []string
	for _, row := range signs {
		if row[0] == -1 {
			row = negative(row)
		}
		l = append(l, written(row))
	}
	return l
}

func transform(l []int) []int {
	var sums []int
	for i := range l {
		sum := 0
		for j, x := range l {
			if common(i, j)%2 == 1 {
				sum -= x
			} else {
				sum += x
			}
		}
		sums = append(sums, sum)
	}
	return sums
}

// isBent is for rows of 4^k signs.
func isBent(s string) bool {
	size := map[int]int{1: 1, 4: 2, 16: 4, 64: 8}[len(s)]
	return !slices.ContainsFunc(transform(signsOf(s)), func(x int) bool { return x != size && x != -size })
}

// bent returns a bent row of 64 signs: that of x and y is the parity of the bits that x and some number for y have in common, or, for some y, the opposite one.
func bent(r *sequence) string {
	numbers := []int{0, 1, 2, 3, 4, 5, 6, 7}
	for i := range numbers {
		j := r.below(i + 1)
		numbers[i], numbers[j] = numbers[j], numbers[i]
	}
	var signs []int
	for _, number := range numbers {
		sign := 1 - 2*r.below(2)
		for x := range 8 {
			signs = append(signs, sign*(1-common(number, x)%2*2))
		}
	}
	return written(signs)
}

// changed returns a row with all signs changed.
func changed(s string) string {
	return written(negative(signsOf(s)))
}

func turned(s string) string {
	l := signsOf(s)
	slices.Reverse(l)
	return written(l)
}

// everySecond returns a row with every second sign changed, from the sign first on.
func everySecond(s string, first int) string {
	l := signsOf(s)
	for i := first; i < len(l); i += 2 {
		l[i] = -l[i]
	}
	return written(l)
}

// columns returns the matrix whose rows are the columns.
func columns(m []string) []string {
	var l []string
	for j := range m {
		s := ""
		for i := range m {
			s += m[i][j : j+1]
		}
		l = append(l, s)
	}
	return l
}

// allRows returns all rows of n signs in byte order.
func allRows(n int) []string {
	l := []string{""}
	for range n {
		var longer []string
		for _, s := range l {
			longer = append(longer, s+"+", s+"-")
		}
		l = longer
	}
	return l
}

// allMatrices returns all matrices of n rows.
func allMatrices(n int) [][]string {
	l := [][]string{nil}
	for range n {
		var longer [][]string
		for _, m := range l {
			for _, s := range allRows(n) {
				longer = append(longer, append(slices.Clone(m), s))
			}
		}
		l = longer
	}
	return l
}

// sequence is numbers that look as if they had no order, and are always the same.
type sequence uint64

func (r *sequence) below(n int) int {
	*r = *r*6364136223846793005 + 1442695040888963407
	return int(*r >> 33 % sequence(n))
}

func (r *sequence) row(n int) string {
	var signs []int
	for range n {
		signs = append(signs, 1-2*r.below(2))
	}
	return written(signs)
}

func (r *sequence) matrix(n int) []string {
	var m []string
	for range n {
		m = append(m, r.row(n))
	}
	return m
}

func (r *sequence) numbers(n, most int) []int {
	var l []int
	for range n {
		l = append(l, r.below(2*most+1)-most)
	}
	return l
}

// each goes through all short rows, and some of every length.
func each(f func(s string)) {
	for n := 1; n <= 9; n++ {
		for _, s := range allRows(n) {
			f(s)
		}
	}
	r := sequence(1)
	for n := 10; n <= api.MaxSigns; n++ {
		f(strings.Repeat("+", n))
		f(strings.Repeat("-", n))
		f(strings.Repeat("+-", n)[:n])
		for range 5 {
			f(r.row(n))
		}
	}
}

// eachRight goes through right matrices of all kinds.
func eachRight(f func(m []string)) {
	for n := 1; n <= 4; n++ {
		for _, m := range allMatrices(n) {
			if isRight(m) {
				f(m)
			}
		}
	}
	for k := range 6 {
		f(sylvester(k))
	}
	for _, p := range []int{3, 7, 11, 19, 23, 31} {
		f(paley(p))
	}
}

// eachMatrix goes through all small matrices, right ones, some that differ from them in one sign, and others.
func eachMatrix(f func(m []string)) {
	for n := 1; n <= 3; n++ {
		for _, m := range allMatrices(n) {
			f(m)
		}
	}
	r := sequence(2)
	eachRight(func(m []string) {
		f(m)
		if n := len(m); n > 4 {
			one, i, j := slices.Clone(m), r.below(n), r.below(n)
			one[i] = one[i][:j] + changed(one[i][j:j+1]) + one[i][j+1:]
			f(one)
			same := slices.Clone(m)
			same[i] = same[(i+1)%n]
			f(same)
		}
	})
	for n := 4; n <= api.MaxOrder; n++ {
		f(r.matrix(n))
		f(slices.Repeat([]string{strings.Repeat("-", n)}, n))
	}
}

// eachList goes through lists that may be transformed.
func eachList(f func(l []int)) {
	r := sequence(3)
	for n := 1; n <= api.MaxValues; n *= 2 {
		for _, x := range []int{0, 1, -1, 1000000, -1000000} {
			f(slices.Repeat([]int{x}, n))
			for i := range n {
				l := make([]int, n)
				l[i] = x
				f(l)
			}
		}
		for _, most := range []int{1, 10, 1000000} {
			for range 10 {
				f(r.numbers(n, most))
			}
		}
	}
}

func ok(t *testing.T, name string, e api.Errno) {
	t.Helper()
	if e != api.OK {
		t.Fatalf("%s: error %d", name, e)
	}
}

// The following functions fail the test if an error is returned.

func likeOf(t *testing.T, s string) []int {
	t.Helper()
	l, e := gait.Like(s)
	ok(t, "Like", e)
	return l
}

func aroundOf(t *testing.T, s string) []int {
	t.Helper()
	l, e := gait.Around(s)
	ok(t, "Around", e)
	return l
}

func meritOf(t *testing.T, s string) api.Num {
	t.Helper()
	x, e := gait.Merit(s)
	ok(t, "Merit", e)
	return x
}

func isGolayOf(t *testing.T, s, u string) bool {
	t.Helper()
	is, e := gait.IsGolay(s, u)
	ok(t, "IsGolay", e)
	return is
}

func doubleOf(t *testing.T, s, u string) (string, string) {
	t.Helper()
	a, b, e := gait.Double(s, u)
	ok(t, "Double", e)
	return a, b
}

func legendreOf(t *testing.T, p int) string {
	t.Helper()
	s, e := gait.Legendre(p)
	ok(t, "Legendre", e)
	return s
}

func sylvesterOf(t *testing.T, k int) []string {
	t.Helper()
	m, e := gait.Sylvester(k)
	ok(t, "Sylvester", e)
	return m
}

func paleyOf(t *testing.T, p int) []string {
	t.Helper()
	m, e := gait.Paley(p)
	ok(t, "Paley", e)
	return m
}

func rightOf(t *testing.T, m []string) bool {
	t.Helper()
	is, e := gait.Right(m)
	ok(t, "Right", e)
	return is
}

func normalOf(t *testing.T, m []string) []string {
	t.Helper()
	l, e := gait.Normal(m)
	ok(t, "Normal", e)
	return l
}

func transformOf(t *testing.T, l []int) []int {
	t.Helper()
	sums, e := gait.Transform(l)
	ok(t, "Transform", e)
	return sums
}

func bentOf(t *testing.T, s string) bool {
	t.Helper()
	is, e := gait.Bent(s)
	ok(t, "Bent", e)
	return is
}
