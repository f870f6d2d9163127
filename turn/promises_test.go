package turn_test

import (
	"math/big"
	"slices"
	"strconv"
	"testing"

	"pritchel/api"
	"pritchel/turn"
)

// beside returns two bushes as one.
func beside(a, b []api.Twig) []api.Twig {
	l := slices.Clone(a)
	for _, t := range b {
		if t.On >= 0 {
			t.On += len(a)
		}
		l = append(l, t)
	}
	return l
}

func exchanged(b []api.Twig) []api.Twig {
	l := slices.Clone(b)
	for i := range l {
		l[i].Left = !l[i].Left
	}
	return l
}

// H1
func TestSum(t *testing.T) {
	r := sequence(7)
	for n := range api.MaxTwigs + 1 {
		for range 40 {
			a, b := r.bush(n), r.bush(r.below(api.MaxTwigs+1-n))
			sum := new(big.Rat).Add(rat(t, valueOf(t, a)), rat(t, valueOf(t, b)))
			if x := valueOf(t, beside(a, b)); x != num(sum) {
				t.Errorf("Value(%s) = %s, not %s", text(beside(a, b)), x, num(sum))
			}
		}
	}
	each(func(b []api.Twig) {
		x := rat(t, valueOf(t, b))
		if y := valueOf(t, exchanged(b)); y != num(x.Neg(x)) {
			t.Errorf("Value(%s) = %s, not %s", text(exchanged(b)), y, num(x))
		}
		if len(b) <= api.MaxTwigs/2 {
			if y := valueOf(t, beside(b, exchanged(b))); y != "0" {
				t.Errorf("Value(%s) = %s", text(beside(b, exchanged(b))), y)
			}
		}
	})
}

// H2
func TestMovesCost(t *testing.T) {
	each(func(b []api.Twig) {
		x := rat(t, valueOf(t, b))
		for twig, twigOf := range b {
			y := rat(t, valueOf(t, cutOf(t, b, twig)))
			if twigOf.Left && y.Cmp(x) >= 0 || !twigOf.Left && y.Cmp(x) <= 0 {
				t.Errorf("%s: %s becomes %s when %d is cut", text(b), num(x), num(y), twig)
			}
		}
		for _, y := range movesOf(t, b, true) {
			if rat(t, y).Cmp(x) >= 0 {
				t.Errorf("Moves(%s) of Left lead from %s to %s", text(b), num(x), y)
			}
		}
		for _, y := range movesOf(t, b, false) {
			if rat(t, y).Cmp(x) <= 0 {
				t.Errorf("Moves(%s) of Right lead from %s to %s", text(b), num(x), y)
			}
		}
	})
}

// H3
func TestWhoWins(t *testing.T) {
	each(func(b []api.Twig) {
		sign := rat(t, valueOf(t, b)).Sign()
		for _, first := range []bool{false, true} {
			left, right := winsOf(t, b, true, first), winsOf(t, b, false, first)
			if left != (sign > 0 || sign == 0 && !first) || right != (sign < 0 || sign == 0 && !first) {
				t.Errorf("%s is worth %s, first %t: Left wins %t, Right wins %t", text(b), valueOf(t, b), first, left, right)
			}
			if left == winsOf(t, b, false, !first) {
				t.Errorf("%s, first %t: both win, or neither", text(b), first)
			}
		}
	})
}

// H4 and H5
func TestBerlekamp(t *testing.T) {
	check := func(s string) {
		t.Helper()
		x := stalkOf(t, s)
		if x != num(berlekamp(s)) {
			t.Errorf("Stalk(%s) = %s, not %s", s, x, num(berlekamp(s)))
		}
		if back, e := turn.Written(x); e != api.OK || back != s {
			t.Errorf("Written(%s) = %q, %d, not %q", x, back, e, s)
		}
	}
	for n := range 12 {
		for _, s := range allStalks(n) {
			check(s)
		}
	}
	r := sequence(8)
	for n := 12; n <= api.MaxStalk; n++ {
		for range 20 {
			check(r.stalk(n))
		}
		for run := range n {
			same := make([]byte, n)
			for i := range same {
				same[i] = "LR"[run/30%2]
			}
			check(string(same[:run]) + r.stalk(n-run))
			check(string(same[:run]) + string("RL"[run/30%2]) + string(same[run+1:]))
		}
	}
}

// A stalk is worth the same as a bush.
func TestStalkIsBush(t *testing.T) {
	r := sequence(9)
	for n := range api.MaxTwigs + 1 {
		for range 20 {
			s := r.stalk(n)
			if x, y := stalkOf(t, s), valueOf(t, chain(s)); x != y {
				t.Errorf("Stalk(%s) = %s, but its bush is worth %s", s, x, y)
			}
		}
	}
}

// H6
func TestTree(t *testing.T) {
	each(func(b []api.Twig) {
		if x, y := valueOf(t, b), num(grown(b, -1)); x != y {
			t.Errorf("Value(%s) = %s, not %s", text(b), x, y)
		}
	})
	r := sequence(10)
	for range 300 {
		b := r.bush(api.MaxTwigs - 1)
		on := bush("L-1")
		for _, twig := range b {
			on = append(on, api.Twig{On: twig.On + 1, Left: twig.Left})
		}
		if x, y := valueOf(t, on), num(twigUnder(rat(t, valueOf(t, b)))); x != y {
			t.Errorf("Value(%s) = %s, not %s", text(on), x, y)
		}
	}
}

// H7
func TestOppositeBounds(t *testing.T) {
	opposite := func(x *big.Rat) *big.Rat {
		if x == nil {
			return nil
		}
		return new(big.Rat).Neg(x)
	}
	check := func(l, h *big.Rat) {
		t.Helper()
		x := rat(t, simplestOf(t, bound(l), bound(h)))
		if y := simplestOf(t, bound(opposite(h)), bound(opposite(l))); y != num(opposite(x)) {
			t.Errorf("Simplest(%s, %s) = %s, but %s of the opposite bounds", bound(l), bound(h), num(x), y)
		}
		checkSimplest(t, bound(l), bound(h))
	}
	for _, l := range smallRatios() {
		for _, h := range smallRatios() {
			if l == nil || h == nil || l.Cmp(h) < 0 {
				check(l, h)
			}
		}
	}
	r := sequence(11)
	for range 1000 {
		l, h := r.ratio(20), r.ratio(20)
		if l.Cmp(h) < 0 {
			check(l, h)
		}
		check(l, nil)
	}
}

// Values are the simplest numbers between those of the moves.
func TestSimplestBetweenMoves(t *testing.T) {
	last := func(l []api.Num, order int) api.Num {
		if len(l) == 0 {
			return ""
		}
		return slices.MaxFunc(l, func(x, y api.Num) int { return order * rat(t, x).Cmp(rat(t, y)) })
	}
	each(func(b []api.Twig) {
		l, r := last(movesOf(t, b, true), 1), last(movesOf(t, b, false), -1)
		if x := simplestOf(t, l, r); x != valueOf(t, b) {
			t.Errorf("Value(%s) = %s, Simplest(%s, %s) = %s", text(b), valueOf(t, b), l, r, x)
		}
	})
}

// H8
func TestLastCut(t *testing.T) {
	each(func(b []api.Twig) {
		for _, left := range []bool{false, true} {
			cuts := gameOf(t, b, left)
			rest, player := b, left
			for _, twig := range cuts {
				if twig < 0 || twig >= len(rest) || rest[twig].Left != player {
					t.Fatalf("Game(%s, %t) = %v", text(b), left, cuts)
				}
				best, e := turn.Best(rest, player)
				if e != api.OK || best != twig {
					t.Fatalf("Game(%s, %t) = %v, but Best(%s) = %d, %d", text(b), left, cuts, text(rest), best, e)
				}
				rest, player = cutOf(t, rest, twig), !player
			}
			if _, e := turn.Best(rest, player); e != api.ErrNone {
				t.Errorf("Game(%s, %t) = %v ends too early", text(b), left, cuts)
			}
			if !winsOf(t, b, !player, left != player) {
				t.Errorf("Game(%s, %t) = %v, but the other one wins", text(b), left, cuts)
			}
		}
	})
}

// results returns all results about a bush.
func results(t *testing.T, b []api.Twig) []string {
	t.Helper()
	l := []string{string(valueOf(t, b))}
	for twig := range b {
		l = append(l, text(cutOf(t, b, twig)))
	}
	for _, left := range []bool{false, true} {
		for _, x := range movesOf(t, b, left) {
			l = append(l, string(x))
		}
		for _, twig := range gameOf(t, b, left) {
			l = append(l, strconv.Itoa(twig))
		}
	}
	return l
}

// R5 and R6: arguments stay as they are, also behind their ends, and results depend on them alone.
func TestArguments(t *testing.T) {
	r := sequence(12)
	for n := range api.MaxTwigs + 1 {
		for range 10 {
			b := r.bush(n)
			long := append(slices.Clone(b), r.bush(20)...)
			before := slices.Clone(long)
			want := results(t, b)
			if l := results(t, long[:n]); !slices.Equal(l, want) {
				t.Errorf("%s: %v, then %v", text(b), want, l)
			}
			if !slices.Equal(long, before) {
				t.Fatalf("arguments were changed from %s to %s", text(before), text(long))
			}
			if l := results(t, b); !slices.Equal(l, want) {
				t.Errorf("%s: %v, then %v", text(b), want, l)
			}
		}
	}
}

// What is done to a result is seen in no argument, and in no other result.
func TestResultsApart(t *testing.T) {
	r := sequence(13)
	b := r.bush(api.MaxTwigs)
	before, want := slices.Clone(b), results(t, b)
	for twig := range b {
		l := cutOf(t, b, twig)
		clear(l)
		clear(l[:cap(l)])
	}
	for _, left := range []bool{false, true} {
		clear(movesOf(t, b, left))
		clear(gameOf(t, b, left))
	}
	if !slices.Equal(b, before) {
		t.Fatalf("the argument was changed from %s to %s", text(before), text(b))
	}
	if l := results(t, b); !slices.Equal(l, want) {
		t.Errorf("%v, then %v", want, l)
	}
}

// R4: no twigs are a bush, worth nothing, in which whoever is second wins.
func TestNilAndEmpty(t *testing.T) {
	for _, b := range [][]api.Twig{nil, {}, bush("L-1")[:0]} {
		if l := results(t, b); !slices.Equal(l, []string{"0"}) {
			t.Errorf("no twigs: %v", l)
		}
		for _, left := range []bool{false, true} {
			if winsOf(t, b, left, true) || !winsOf(t, b, left, false) {
				t.Errorf("no twigs: whoever is first wins")
			}
			if _, e := turn.Best(b, left); e != api.ErrNone {
				t.Errorf("Best: %d", e)
			}
		}
		if _, e := turn.Cut(b, 0); e != api.ErrArg {
			t.Errorf("Cut: %d", e)
		}
	}
}
