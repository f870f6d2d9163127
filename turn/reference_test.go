package turn_test

import (
	"math/big"
	"slices"
	"strconv"
	"strings"
	"testing"

	"pritchel/api"
	"pritchel/turn"
)

// This file works by the definitions of the chapter, as slowly and plainly as they are written, and makes cases.

// bush reads words like L-1 and R0: whose a twig is, and what it grows on.
func bush(text string) []api.Twig {
	var l []api.Twig
	for _, word := range strings.Fields(text) {
		on, err := strconv.Atoi(word[1:])
		if err != nil {
			panic(err)
		}
		l = append(l, api.Twig{On: on, Left: word[0] == 'L'})
	}
	return l
}

// text writes a bush as bush reads it.
func text(b []api.Twig) string {
	var words []string
	for _, t := range b {
		words = append(words, colour(t.Left)+strconv.Itoa(t.On))
	}
	return strings.Join(words, " ")
}

func colour(left bool) string {
	if left {
		return "L"
	}
	return "R"
}

// chain returns a stalk as a bush.
func chain(s string) []api.Twig {
	var l []api.Twig
	for i := range len(s) {
		l = append(l, api.Twig{On: i - 1, Left: s[i] == 'L'})
	}
	return l
}

func cut(b []api.Twig, twig int) []api.Twig {
	fallen, number := map[int]bool{}, map[int]int{-1: -1}
	var l []api.Twig
	for i, t := range b {
		if i == twig || fallen[t.On] {
			fallen[i] = true
			continue
		}
		number[i] = len(l)
		l = append(l, api.Twig{On: number[t.On], Left: t.Left})
	}
	return l
}

// owned returns the twigs of a player.
func owned(b []api.Twig, left bool) []int {
	var l []int
	for i, t := range b {
		if t.Left == left {
			l = append(l, i)
		}
	}
	return l
}

// isBetween compares with bounds, of which nil is none.
func isBetween(l, x, r *big.Rat) bool {
	return (l == nil || l.Cmp(x) < 0) && (r == nil || x.Cmp(r) < 0)
}

// floor returns the greatest integer that is not above x.
func floor(x *big.Rat) *big.Int {
	quotient := new(big.Int)
	return quotient.Div(x.Num(), x.Denom())
}

// after returns the least multiple of 1/parts above l.
func after(l *big.Rat, parts int64) *big.Rat {
	n := floor(new(big.Rat).Mul(l, big.NewRat(parts, 1)))
	return new(big.Rat).SetFrac(n.Add(n, big.NewInt(1)), big.NewInt(parts))
}

// simplest looks at the integers from 0 on, then at the fractions by their denominators.
func simplest(l, r *big.Rat) *big.Rat {
	if l == nil || r == nil || isBetween(l, after(l, 1), r) {
		for n := int64(0); ; n++ {
			for _, x := range []*big.Rat{big.NewRat(n, 1), big.NewRat(-n, 1)} {
				if isBetween(l, x, r) {
					return x
				}
			}
		}
	}
	for parts := int64(2); ; parts *= 2 {
		if x := after(l, parts); isBetween(l, x, r) {
			return x
		}
	}
}

// values remembers the values of bushes.
type values map[string]*big.Rat

func (m values) of(b []api.Twig) *big.Rat {
	if v := m[text(b)]; v != nil {
		return v
	}
	var l, r *big.Rat
	for i, t := range b {
		v := m.of(cut(b, i))
		if t.Left && (l == nil || l.Cmp(v) < 0) {
			l = v
		}
		if !t.Left && (r == nil || v.Cmp(r) < 0) {
			r = v
		}
	}
	m[text(b)] = simplest(l, r)
	return m[text(b)]
}

// winners remembers whether the player who moves first wins.
type winners map[string]bool

func (m winners) first(b []api.Twig, left bool) bool {
	key := colour(left) + " " + text(b)
	if _, known := m[key]; !known {
		m[key] = slices.ContainsFunc(owned(b, left), func(twig int) bool { return !m.first(cut(b, twig), !left) })
	}
	return m[key]
}

// grown returns what grows on a twig, or on the ground, by H6.
func grown(b []api.Twig, on int) *big.Rat {
	sum := new(big.Rat)
	for i, t := range b {
		if t.On != on {
			continue
		}
		x := grown(b, i)
		if t.Left {
			sum.Add(sum, twigUnder(x))
		} else {
			sum.Sub(sum, twigUnder(x.Neg(x)))
		}
	}
	return sum
}

// twigUnder returns what a Left twig is worth with x on it.
func twigUnder(x *big.Rat) *big.Rat {
	k := int64(1)
	for new(big.Rat).Add(x, big.NewRat(k, 1)).Cmp(big.NewRat(1, 1)) <= 0 {
		k++
	}
	sum := new(big.Rat).Add(x, big.NewRat(k, 1))
	return sum.Quo(sum, new(big.Rat).SetInt(power(int(k-1))))
}

func power(n int) *big.Int {
	return new(big.Int).Lsh(big.NewInt(1), uint(n))
}

// berlekamp returns what a stalk is worth by H4.
func berlekamp(s string) *big.Rat {
	if strings.HasPrefix(s, "R") {
		exchanged := strings.NewReplacer("L", "R", "R", "L").Replace(s)
		x := berlekamp(exchanged)
		return x.Neg(x)
	}
	change := strings.Index(s, "R")
	if change < 0 {
		return big.NewRat(int64(len(s)), 1)
	}
	x := big.NewRat(int64(change-1), 1)
	digits := strings.NewReplacer("L", "1", "R", "0").Replace(s[change+1:]) + "1"
	for i, d := range digits {
		if d == '1' {
			x.Add(x, new(big.Rat).SetFrac(big.NewInt(1), power(i+1)))
		}
	}
	return x
}

// letters returns how long the stalk with a dyadic value is: an integer has its own number of letters; others have one more than the integer part, then the first of the other colour, and a digit for each factor 2 but the last one.
func letters(x *big.Rat) int64 {
	size := new(big.Rat).Abs(x)
	if x.IsInt() {
		return size.Num().Int64()
	}
	return floor(size).Int64() + int64(x.Denom().BitLen()-1) + 1
}

func num(x *big.Rat) api.Num {
	return api.Num(x.RatString())
}

func rat(t *testing.T, x api.Num) *big.Rat {
	t.Helper()
	r, is := new(big.Rat).SetString(string(x))
	if !is || num(r) != x {
		t.Fatalf("%q is no Num", x)
	}
	return r
}

// sequence is numbers that look as if they had no order, and are always the same.
type sequence uint64

func (r *sequence) below(n int) int {
	*r = *r*6364136223846793005 + 1442695040888963407
	return int(*r >> 33 % sequence(n))
}

func (r *sequence) bush(n int) []api.Twig {
	var l []api.Twig
	ground := 1 + r.below(3)
	for i := range n {
		l = append(l, api.Twig{On: max(r.below(i+ground)-ground, -1), Left: r.below(2) == 0})
	}
	return l
}

func (r *sequence) stalk(n int) string {
	var s strings.Builder
	for range n {
		s.WriteString(colour(r.below(2) == 0))
	}
	return s.String()
}

// digits returns a number of n decimal digits.
func (r *sequence) digits(n int) *big.Int {
	s := strconv.Itoa(1 + r.below(9))
	for range n - 1 {
		s += strconv.Itoa(r.below(10))
	}
	x, _ := new(big.Int).SetString(s, 10)
	return x
}

// ratio returns a number of at most n digits in the numerator, and in the denominator.
func (r *sequence) ratio(n int) *big.Rat {
	x := new(big.Rat).SetFrac(r.digits(1+r.below(n)), r.digits(1+r.below(n)))
	switch r.below(8) {
	case 0:
		return x.SetInt(x.Num())
	case 1, 2, 3:
		return x.Neg(x)
	}
	return x
}

// allBushes returns all bushes of n twigs.
func allBushes(n int) [][]api.Twig {
	all := [][]api.Twig{nil}
	for i := range n {
		var longer [][]api.Twig
		for _, b := range all {
			for on := -1; on < i; on++ {
				for _, left := range []bool{false, true} {
					longer = append(longer, append(slices.Clone(b), api.Twig{On: on, Left: left}))
				}
			}
		}
		all = longer
	}
	return all
}

// allStalks returns all stalks of n letters.
func allStalks(n int) []string {
	all := []string{""}
	for range n {
		var longer []string
		for _, s := range all {
			longer = append(longer, s+"L", s+"R")
		}
		all = longer
	}
	return all
}

// each goes through all bushes that are small, and some larger ones.
func each(f func(b []api.Twig)) {
	for n := range 6 {
		for _, b := range allBushes(n) {
			f(b)
		}
	}
	r := sequence(1)
	for n := 6; n <= api.MaxTwigs; n++ {
		for range 12 {
			f(r.bush(n))
		}
	}
}

func ok(t *testing.T, name string, e api.Errno) {
	t.Helper()
	if e != api.OK {
		t.Fatalf("%s: error %d", name, e)
	}
}

// The following functions fail the test if an error is returned.

func valueOf(t *testing.T, b []api.Twig) api.Num {
	t.Helper()
	x, e := turn.Value(b)
	ok(t, "Value", e)
	return x
}

func cutOf(t *testing.T, b []api.Twig, twig int) []api.Twig {
	t.Helper()
	l, e := turn.Cut(b, twig)
	ok(t, "Cut", e)
	return l
}

func movesOf(t *testing.T, b []api.Twig, left bool) []api.Num {
	t.Helper()
	l, e := turn.Moves(b, left)
	ok(t, "Moves", e)
	return l
}

func winsOf(t *testing.T, b []api.Twig, left, first bool) bool {
	t.Helper()
	is, e := turn.Wins(b, left, first)
	ok(t, "Wins", e)
	return is
}

func gameOf(t *testing.T, b []api.Twig, left bool) []int {
	t.Helper()
	l, e := turn.Game(b, left)
	ok(t, "Game", e)
	return l
}

func stalkOf(t *testing.T, s string) api.Num {
	t.Helper()
	x, e := turn.Stalk(s)
	ok(t, "Stalk", e)
	return x
}

func simplestOf(t *testing.T, l, r api.Num) api.Num {
	t.Helper()
	x, e := turn.Simplest(l, r)
	ok(t, "Simplest", e)
	return x
}
