package turn_test

import (
	"math"
	"math/big"
	"slices"
	"strings"
	"testing"

	"pritchel/api"
	"pritchel/turn"
)

func TestExamples(t *testing.T) {
	for s, want := range map[string]api.Num{"": "0", "L": "1", "R": "-1", "LR": "1/2", "LLR": "3/2", "LRL": "3/4", "RLR": "-3/4"} {
		if x := stalkOf(t, s); x != want {
			t.Errorf("Stalk(%s) = %s, not %s", s, x, want)
		}
		if back, e := turn.Written(want); e != api.OK || back != s {
			t.Errorf("Written(%s) = %q, %d, not %q", want, back, e, s)
		}
	}
	if x := valueOf(t, bush("L-1 R0 R0")); x != "1/4" {
		t.Errorf("Value = %s", x)
	}
	if x := simplestOf(t, "1/4", "1"); x != "1/2" {
		t.Errorf("Simplest = %s", x)
	}
	if x := simplestOf(t, "", "-3/2"); x != "-2" {
		t.Errorf("Simplest = %s", x)
	}
}

func TestValue(t *testing.T) {
	known := values{}
	each(func(b []api.Twig) {
		if x := valueOf(t, b); x != num(known.of(b)) {
			t.Errorf("Value(%s) = %s, not %s", text(b), x, num(known.of(b)))
		}
	})
}

// Twigs that all grow on the ground have as many bushes below them as there can be; twigs on one another have the finest values.
func TestGreatAndFineValues(t *testing.T) {
	cases := []struct {
		b    []api.Twig
		want api.Num
	}{
		{slices.Repeat(bush("L-1"), 12), "12"},
		{slices.Repeat(bush("R-1"), 12), "-12"},
		{slices.Repeat(bush("L-1 R-1"), 6), "0"},
		{chain("LRRRRRRRRRRR"), "1/2048"},
		{chain("RLLLLLLLLLLL"), "-1/2048"},
		{chain("LRLLLLLLLLLL"), "2047/2048"},
		{chain("LLLLLLLLLLLR"), "21/2"},
		{chain("RRRRRRRRRRRR"), "-12"},
	}
	for _, c := range cases {
		if x := valueOf(t, c.b); x != c.want {
			t.Errorf("Value(%s) = %s, not %s", text(c.b), x, c.want)
		}
	}
}

func TestCut(t *testing.T) {
	each(func(b []api.Twig) {
		for twig := range b {
			if l := cutOf(t, b, twig); !slices.Equal(l, cut(b, twig)) {
				t.Errorf("Cut(%s, %d) = %s, not %s", text(b), twig, text(l), text(cut(b, twig)))
			}
		}
	})
	b := bush("L-1 R-1 L0 R1 L2 R3 L1 R-1")
	for twig, want := range []string{"R-1 R0 R1 L0 R-1", "L-1 L0 L1 R-1", "L-1 R-1 R1 R2 L1 R-1"} {
		if l := cutOf(t, b, twig); text(l) != want {
			t.Errorf("Cut(%d) = %s, not %s", twig, text(l), want)
		}
	}
}

func TestMoves(t *testing.T) {
	known := values{}
	each(func(b []api.Twig) {
		for _, left := range []bool{false, true} {
			var want []api.Num
			for _, twig := range owned(b, left) {
				want = append(want, num(known.of(cut(b, twig))))
			}
			if l := movesOf(t, b, left); !slices.Equal(l, want) {
				t.Errorf("Moves(%s, %t) = %v, not %v", text(b), left, l, want)
			}
		}
	})
}

// best returns the first of the best moves, or -1.
func best(known values, b []api.Twig, left bool) int {
	twig, most := -1, new(big.Rat)
	for _, i := range owned(b, left) {
		v := new(big.Rat).Set(known.of(cut(b, i)))
		if !left {
			v.Neg(v)
		}
		if twig < 0 || v.Cmp(most) > 0 {
			twig, most = i, v
		}
	}
	return twig
}

func TestBest(t *testing.T) {
	known := values{}
	each(func(b []api.Twig) {
		for _, left := range []bool{false, true} {
			want, wantError := best(known, b, left), api.OK
			if want < 0 {
				want, wantError = 0, api.ErrNone
			}
			if twig, e := turn.Best(b, left); twig != want || e != wantError {
				t.Errorf("Best(%s, %t) = %d, %d, not %d, %d", text(b), left, twig, e, want, wantError)
			}
		}
	})
}

func TestNoMove(t *testing.T) {
	for _, b := range [][]api.Twig{nil, {}, bush("L-1"), bush("L-1 L0 L-1")} {
		if twig, e := turn.Best(b, false); twig != 0 || e != api.ErrNone {
			t.Errorf("Best(%s) of Right = %d, %d", text(b), twig, e)
		}
		if l := movesOf(t, b, false); len(l) != 0 {
			t.Errorf("Moves(%s) of Right = %v", text(b), l)
		}
		if l := gameOf(t, b, false); len(l) != 0 {
			t.Errorf("Game(%s) of Right = %v", text(b), l)
		}
		if winsOf(t, b, false, true) || !winsOf(t, b, true, false) {
			t.Errorf("Right wins without a move: %s", text(b))
		}
	}
}

func TestWins(t *testing.T) {
	played := winners{}
	each(func(b []api.Twig) {
		for _, left := range []bool{false, true} {
			if is := winsOf(t, b, left, true); is != played.first(b, left) {
				t.Errorf("Wins(%s, %t, first) = %t", text(b), left, is)
			}
			if is := winsOf(t, b, left, false); is == played.first(b, !left) {
				t.Errorf("Wins(%s, %t, second) = %t", text(b), left, is)
			}
		}
	})
}

func TestGame(t *testing.T) {
	known := values{}
	each(func(b []api.Twig) {
		for _, left := range []bool{false, true} {
			var want []int
			rest, player := b, left
			for twig := best(known, rest, player); twig >= 0; twig = best(known, rest, player) {
				want = append(want, twig)
				rest, player = cut(rest, twig), !player
			}
			if l := gameOf(t, b, left); !slices.Equal(l, want) {
				t.Errorf("Game(%s, %t) = %v, not %v", text(b), left, l, want)
			}
		}
	})
}

// Twigs are numbered anew after each cut.
func TestGameNumbers(t *testing.T) {
	cases := []struct {
		b    []api.Twig
		left bool
		want []int
	}{
		{bush("L-1 R-1"), true, []int{0, 0}},
		{bush("L-1 R-1"), false, []int{1, 0}},
		{bush("L-1 L-1 R-1 R-1"), true, []int{0, 1, 0, 0}},
		{bush("R-1 L0 L-1 R2"), true, []int{1, 2, 1, 0}},
	}
	for _, c := range cases {
		if l := gameOf(t, c.b, c.left); !slices.Equal(l, c.want) {
			t.Errorf("Game(%s, %t) = %v, not %v", text(c.b), c.left, l, c.want)
		}
	}
}

func TestStalk(t *testing.T) {
	known := values{}
	for n := range 11 {
		for _, s := range allStalks(n) {
			if x := stalkOf(t, s); x != num(known.of(chain(s))) {
				t.Errorf("Stalk(%s) = %s, not %s", s, x, num(known.of(chain(s))))
			}
		}
	}
}

func TestLongStalk(t *testing.T) {
	for s, want := range map[string]api.Num{
		strings.Repeat("L", 60):                 "60",
		strings.Repeat("R", 60):                 "-60",
		"L" + strings.Repeat("R", 59):           "1/576460752303423488",
		"R" + strings.Repeat("L", 59):           "-1/576460752303423488",
		"LR" + strings.Repeat("L", 58):          "576460752303423487/576460752303423488",
		strings.Repeat("L", 59) + "R":           "117/2",
		strings.Repeat("R", 59) + "L":           "-117/2",
		"LLR" + strings.Repeat("L", 57):         "576460752303423487/288230376151711744",
		"LLLLR" + strings.Repeat("L", 54) + "R": "288230376151711741/72057594037927936",
	} {
		if x := stalkOf(t, s); x != want || x != num(berlekamp(s)) {
			t.Errorf("Stalk(%s) = %s, not %s", s, x, want)
		}
	}
}

func checkWritten(t *testing.T, x *big.Rat) {
	t.Helper()
	s, e := turn.Written(num(x))
	if letters(x) > api.MaxStalk {
		if s != "" || e != api.ErrNone {
			t.Errorf("Written(%s) = %q, %d, not error %d", num(x), s, e, api.ErrNone)
		}
		return
	}
	if e != api.OK || int64(len(s)) != letters(x) || berlekamp(s).Cmp(x) != 0 {
		t.Errorf("Written(%s) = %q, %d", num(x), s, e)
	}
}

func TestWritten(t *testing.T) {
	r := sequence(2)
	for twos := range 67 {
		for whole := range 64 {
			top := new(big.Int).Mul(big.NewInt(int64(whole)), power(twos))
			for range 3 {
				part := new(big.Int).Mod(r.digits(20), power(twos))
				x := new(big.Rat).SetFrac(part.Add(part, top), power(twos))
				if len(x.Num().String()) <= 20 {
					checkWritten(t, x)
					checkWritten(t, x.Neg(x))
				}
			}
		}
	}
}

// The last stalks that there are, and the first numbers for which there is none.
func TestWrittenEnds(t *testing.T) {
	for x, want := range map[api.Num]string{
		"60":                    strings.Repeat("L", 60),
		"-60":                   strings.Repeat("R", 60),
		"117/2":                 strings.Repeat("L", 59) + "R",
		"1/576460752303423488":  "L" + strings.Repeat("R", 59),
		"-1/576460752303423488": "R" + strings.Repeat("L", 59),
		"1/2":                   "LR",
		"0":                     "",
	} {
		if s, e := turn.Written(x); s != want || e != api.OK {
			t.Errorf("Written(%s) = %q, %d, not %q", x, s, e, want)
		}
	}
	for _, x := range []api.Num{
		"61", "-61", "119/2", "-119/2", "1/1152921504606846976", "4611686018427387904", "9223372036854775807", "9223372036854775808", "-9223372036854775809",
		"18446744073709551615", "18446744073709551616", "99999999999999999999", "-99999999999999999999",
		"1/18446744073709551616", "1/73786976294838206464", "-99999999999999999999/73786976294838206464", "18446744073709551617/2",
	} {
		if s, e := turn.Written(x); s != "" || e != api.ErrNone {
			t.Errorf("Written(%s) = %q, %d", x, s, e)
		}
	}
}

func TestWrittenArguments(t *testing.T) {
	for _, x := range []api.Num{
		"1/3", "-1/3", "5/12", "1/18446744073709551615", "1/73786976294838206463", "1/99999999999999999999",
		"100000000000000000000", "-100000000000000000000", "1/147573952589676412928", "100000000000000000001/2", "1/100000000000000000000",
		"18446744073709551616/18446744073709551617",
	} {
		if s, e := turn.Written(x); s != "" || e != api.ErrArg {
			t.Errorf("Written(%s) = %q, %d", x, s, e)
		}
	}
}

// smallRatios returns the bounds that are tried with one another, nil among them.
func smallRatios() []*big.Rat {
	all := []*big.Rat{nil}
	for _, parts := range []int64{1, 2, 3, 4, 5, 7, 8} {
		for n := -3 * parts; n <= 3*parts; n++ {
			if x := big.NewRat(n, parts); x.Denom().Int64() == parts {
				all = append(all, x)
			}
		}
	}
	return all
}

func bound(x *big.Rat) api.Num {
	if x == nil {
		return ""
	}
	return num(x)
}

func TestSimplest(t *testing.T) {
	for _, l := range smallRatios() {
		for _, r := range smallRatios() {
			x, e := turn.Simplest(bound(l), bound(r))
			if l != nil && r != nil && l.Cmp(r) >= 0 {
				if x != "" || e != api.ErrArg {
					t.Errorf("Simplest(%s, %s) = %s, %d", bound(l), bound(r), x, e)
				}
				continue
			}
			if want := num(simplest(l, r)); x != want || e != api.OK {
				t.Errorf("Simplest(%s, %s) = %s, %d, not %s", bound(l), bound(r), x, e, want)
			}
		}
	}
}

func TestSimplestKnown(t *testing.T) {
	cases := []struct{ l, r, want api.Num }{
		{"", "", "0"},
		{"", "0", "-1"},
		{"0", "", "1"},
		{"-1", "", "0"},
		{"", "1", "0"},
		{"99999999999999999999", "", "100000000000000000000"},
		{"", "-99999999999999999999", "-100000000000000000000"},
		{"199999999999/2", "", "100000000000"},
		{"-99999999999999999999", "99999999999999999999", "0"},
		{"-99999999999999999999", "-7/2", "-4"},
		{"99999999999999999998", "99999999999999999999", "199999999999999999997/2"},
		{"1/3", "2/5", "3/8"},
		{"0", "1/99999999999999999999", "1/147573952589676412928"},
		{"0", "1/18446744073709551616", "1/36893488147419103232"},
		{"99999999999999999997/99999999999999999998", "99999999999999999998/99999999999999999999", ""},
		{"-1/9999999999", "-1/10000000000", ""},
		{"33333333333333333333/99999999999999999998", "33333333333333333333/99999999999999999997", ""},
	}
	for _, c := range cases {
		x := simplestOf(t, c.l, c.r)
		if c.want != "" && x != c.want {
			t.Errorf("Simplest(%s, %s) = %s, not %s", c.l, c.r, x, c.want)
		}
		checkSimplest(t, c.l, c.r)
	}
}

func boundRat(t *testing.T, x api.Num) *big.Rat {
	t.Helper()
	if x == "" {
		return nil
	}
	return rat(t, x)
}

// checkSimplest tells by properties, not by a search, whether Simplest is right.
func checkSimplest(t *testing.T, low, high api.Num) {
	t.Helper()
	x := rat(t, simplestOf(t, low, high))
	l, r := boundRat(t, low), boundRat(t, high)
	if !isBetween(l, x, r) {
		t.Errorf("Simplest(%s, %s) = %s is not between", low, high, num(x))
	}
	if x.IsInt() {
		nearer := new(big.Rat).Sub(x, big.NewRat(int64(x.Sign()), 1))
		if x.Sign() != 0 && isBetween(l, nearer, r) {
			t.Errorf("Simplest(%s, %s) = %s, but %s is nearer to 0", low, high, num(x), num(nearer))
		}
		return
	}
	twos := x.Denom().BitLen() - 1
	if l == nil || r == nil || x.Denom().Cmp(power(twos)) != 0 {
		t.Errorf("Simplest(%s, %s) = %s", low, high, num(x))
		return
	}
	parts := new(big.Rat).SetInt(power(twos - 1))
	n := floor(new(big.Rat).Mul(l, parts))
	simpler := new(big.Rat).SetFrac(n.Add(n, big.NewInt(1)), power(twos-1))
	if isBetween(l, simpler, r) {
		t.Errorf("Simplest(%s, %s) = %s, but %s is simpler", low, high, num(x), num(simpler))
	}
}

func TestSimplestMany(t *testing.T) {
	r := sequence(3)
	for range 3000 {
		l, h := r.ratio(20), r.ratio(20)
		switch l.Cmp(h) {
		case 1:
			checkSimplest(t, num(h), num(l))
		case -1:
			checkSimplest(t, num(l), num(h))
		}
		checkSimplest(t, num(l), "")
		checkSimplest(t, "", num(l))
	}
}

// Numbers that differ by as little as they can.
func TestSimplestClose(t *testing.T) {
	r := sequence(4)
	tried := 0
	for range 2000 {
		n := 1 + r.below(20)
		b, d := r.digits(n), r.digits(n)
		a := new(big.Int).ModInverse(new(big.Int).Neg(d), b) // so that ad is -1 but for a multiple of b
		if a == nil || a.Sign() == 0 || d.Cmp(big.NewInt(1)) == 0 {
			continue
		}
		c := new(big.Int).Mul(a, d)
		c.Add(c, big.NewInt(1)).Div(c, b)
		l, h := new(big.Rat).SetFrac(a, b), new(big.Rat).SetFrac(c, d)
		if l.Cmp(h) < 0 && len(c.String()) <= 20 {
			tried++
			checkSimplest(t, num(l), num(h))
			checkSimplest(t, num(new(big.Rat).Neg(h)), num(new(big.Rat).Neg(l)))
		}
	}
	if tried < 500 {
		t.Errorf("%d were tried", tried)
	}
}

func TestSimplestArguments(t *testing.T) {
	long := []api.Num{"100000000000000000000", "-100000000000000000000", "1/100000000000000000000", "-100000000000000000001/100000000000000000000"}
	for _, x := range long {
		for _, y := range []api.Num{"", "0", "1/2", "-1/2", "99999999999999999999", "-99999999999999999999"} {
			for _, p := range [][2]api.Num{{x, y}, {y, x}} {
				if s, e := turn.Simplest(p[0], p[1]); s != "" || e != api.ErrArg {
					t.Errorf("Simplest(%s, %s) = %s, %d", p[0], p[1], s, e)
				}
			}
		}
	}
	for _, p := range [][2]api.Num{{"0", "0"}, {"1", "0"}, {"0", "-1"}, {"1/3", "1/3"}, {"-1/3", "-1/2"}, {"99999999999999999998/99999999999999999999", "99999999999999999997/99999999999999999998"}} {
		if s, e := turn.Simplest(p[0], p[1]); s != "" || e != api.ErrArg {
			t.Errorf("Simplest(%s, %s) = %s, %d", p[0], p[1], s, e)
		}
	}
}

// malformed returns strings that are no Num, but for the empty one.
func malformed() []api.Num {
	l := []api.Num{
		"-", "+", "+1", "--1", " 1", "1 ", "1\n", "\x00", "a", "1a", ":", "1:", "1/2:", "0x1", "1e3", "1.5", "1_0", "\u0661", "\xff",
		"00", "01", "-0", "-00", "-01", "/", "1/", "/2", "-/2", "1//2", "1/2/3", "1/2/", "1/-2", "-1/-2", "1/+2", "1/ 2", "1 /2",
		"1/0", "0/0", "1/1", "-7/1", "0/1", "0/2", "-0/2", "0/1000000000", "1/02", "01/2", "1/00", "2/4", "3/3", "-6/4", "1000000000/2000000000", "15/21",
		"123456789012345678901234567890/987654321098765432109876543210",
	}
	nines := api.Num(strings.Repeat("9", api.MaxDigits))
	ones := api.Num(strings.Repeat("1", api.MaxDigits))
	even := api.Num("1" + strings.Repeat("0", api.MaxDigits-1))
	l = append(l, nines+"9", "-"+nines+"9", nines+"9/2", "1/"+nines+"9", "1/"+even+"0", nines+"/3", "3/"+nines, ones+"/"+nines, nines+"/"+ones, "-"+nines+"/"+nines)
	return append(l, even+"/2", "5/"+even, "0"+nines, "0/"+nines, api.Num(strings.Repeat("0", api.MaxDigits)), nines[:3996]+"/"+nines[:2997])
}

// longest returns valid numbers with too many digits for Written and Simplest.
func longest() []api.Num {
	nines := api.Num(strings.Repeat("9", api.MaxDigits))
	ones := api.Num(strings.Repeat("1", api.MaxDigits))
	even := api.Num("1" + strings.Repeat("0", api.MaxDigits-1))
	return []api.Num{nines, "-" + nines, "1/" + nines, "-1/" + even, even, nines + "/" + even, even + "/" + nines, nines + "/2", nines + "/1000000000", "-" + ones + "/" + even, "2/" + ones, nines[1:] + "8/" + nines, ones + "/" + ones[1:]}
}

func TestMalformedNums(t *testing.T) {
	if s, e := turn.Written(""); s != "" || e != api.ErrForm {
		t.Errorf("Written of nothing = %q, %d", s, e)
	}
	for _, x := range malformed() {
		if s, e := turn.Written(x); s != "" || e != api.ErrForm {
			t.Errorf("Written(%.60s) = %q, %d", x, s, e)
		}
		for _, y := range []api.Num{"", "0", "1/3", "100000000000000000000", x} {
			for _, p := range [][2]api.Num{{x, y}, {y, x}} {
				if s, e := turn.Simplest(p[0], p[1]); s != "" || e != api.ErrForm {
					t.Errorf("Simplest(%.60s, %.60s) = %.60s, %d", p[0], p[1], s, e)
				}
			}
		}
	}
}

func TestLongestNums(t *testing.T) {
	for _, x := range longest() {
		if s, e := turn.Written(x); s != "" || e != api.ErrArg {
			t.Errorf("Written(%.60s) = %q, %d", x, s, e)
		}
		for _, y := range []api.Num{"", "0", x} {
			for _, p := range [][2]api.Num{{x, y}, {y, x}} {
				if s, e := turn.Simplest(p[0], p[1]); s != "" || e != api.ErrArg {
					t.Errorf("Simplest(%.60s, %.60s) = %.60s, %d", p[0], p[1], s, e)
				}
			}
		}
	}
}

// Numbers of all lengths are valid in lowest terms, and only then.
func TestLowestTerms(t *testing.T) {
	r := sequence(5)
	for range 400 {
		n := 1 + r.below(80)
		a, b := r.digits(n), r.digits(1+r.below(80))
		x := api.Num(a.String() + "/" + b.String())
		whole := b.Cmp(big.NewInt(1)) == 0
		lowest := new(big.Int).GCD(nil, nil, a, b).Cmp(big.NewInt(1)) == 0
		if _, e := turn.Simplest(x, "-1"); e != api.ErrArg && lowest && !whole || e != api.ErrForm && (!lowest || whole) {
			t.Errorf("%s: %d", x, e)
		}
	}
}

// every function of bushes
type function struct {
	name string
	call func(b []api.Twig) (zero bool, e api.Errno)
}

func functions() []function {
	l := []function{{"Value", func(b []api.Twig) (bool, api.Errno) {
		x, e := turn.Value(b)
		return x == "", e
	}}}
	for _, twig := range []int{0, -1, api.MaxTwigs + 1, math.MinInt, math.MaxInt} {
		l = append(l, function{"Cut", func(b []api.Twig) (bool, api.Errno) {
			rest, e := turn.Cut(b, twig)
			return len(rest) == 0, e
		}})
	}
	for _, left := range []bool{false, true} {
		l = append(l, function{"Moves", func(b []api.Twig) (bool, api.Errno) {
			x, e := turn.Moves(b, left)
			return len(x) == 0, e
		}}, function{"Best", func(b []api.Twig) (bool, api.Errno) {
			twig, e := turn.Best(b, left)
			return twig == 0, e
		}}, function{"Game", func(b []api.Twig) (bool, api.Errno) {
			x, e := turn.Game(b, left)
			return len(x) == 0, e
		}})
		for _, first := range []bool{false, true} {
			l = append(l, function{"Wins", func(b []api.Twig) (bool, api.Errno) {
				is, e := turn.Wins(b, left, first)
				return !is, e
			}})
		}
	}
	return l
}

func refuseAs(t *testing.T, b []api.Twig, want api.Errno) {
	t.Helper()
	for _, f := range functions() {
		if zero, e := f.call(b); e != want || !zero {
			t.Errorf("%s(%.80s): %d, not %d; zero %t", f.name, text(b), e, want, zero)
		}
	}
}

func TestLong(t *testing.T) {
	long := slices.Repeat(bush("L-1"), api.MaxTwigs+1)
	refuseAs(t, long, api.ErrLong)
	refuseAs(t, slices.Repeat(long, 500), api.ErrLong)
	for _, on := range []int{math.MinInt, -2, 0, api.MaxTwigs, math.MaxInt} {
		bad := slices.Clone(long)
		bad[0].On, bad[api.MaxTwigs].On = on, on
		refuseAs(t, bad, api.ErrLong)
	}
}

func TestMalformed(t *testing.T) {
	r := sequence(6)
	for n := 1; n <= api.MaxTwigs; n++ {
		b := r.bush(n)
		for i := range b {
			for _, on := range []int{math.MinInt, -3, -2, i, i + 1, n, n + 5, math.MaxInt} {
				bad := slices.Clone(b)
				bad[i].On = on
				refuseAs(t, bad, api.ErrForm)
			}
		}
	}
}

func TestCutOfNoTwig(t *testing.T) {
	for n := range api.MaxTwigs + 1 {
		b := slices.Repeat(bush("R-1"), n)
		for _, twig := range []int{-1, n, n + 1, 16, 64, math.MinInt, math.MaxInt} {
			if l, e := turn.Cut(b, twig); len(l) != 0 || e != api.ErrArg {
				t.Errorf("Cut(%s, %d) = %s, %d", text(b), twig, text(l), e)
			}
		}
	}
}

func TestStalkErrors(t *testing.T) {
	for _, s := range []string{"l", "r", "LRX", "L R", " ", "L\n", "\x00", "LR\u00e9", "\xff", "-", "0", strings.Repeat("L", 59) + "x"} {
		if x, e := turn.Stalk(s); x != "" || e != api.ErrForm {
			t.Errorf("Stalk(%q) = %s, %d", s, x, e)
		}
	}
	for _, s := range []string{strings.Repeat("L", 61), strings.Repeat("x", 61), "x" + strings.Repeat("R", 60), strings.Repeat("LR", 50000)} {
		if x, e := turn.Stalk(s); x != "" || e != api.ErrLong {
			t.Errorf("Stalk(%.80q) = %s, %d", s, x, e)
		}
	}
}
