package mark_test

import (
	"math/big"
	"slices"
	"testing"

	"pritchel/api"
	"pritchel/mark"
)

// codes gives all codes of the lengths up to some one.
func codes(longest int) func(yield func(n, a int)) {
	return func(yield func(n, a int)) {
		for n := 1; n <= longest; n++ {
			for a := range n + 1 {
				yield(n, a)
			}
		}
	}
}

// V1
func TestLevenshtein(t *testing.T) {
	codes(10)(func(n, a int) {
		shorterFrom, longerFrom := map[string]string{}, map[string]string{}
		for _, word := range codeOf(t, n, a) {
			for _, w := range shorterOf(t, word) {
				if other, is := shorterFrom[w]; is {
					t.Errorf("%q comes of %q and %q", w, other, word)
				}
				shorterFrom[w] = word
			}
			for _, w := range longerOf(t, word) {
				if other, is := longerFrom[w]; is {
					t.Errorf("%q comes of %q and %q", w, other, word)
				}
				longerFrom[w] = word
			}
		}
		for lost, word := range shorterFrom {
			if w, e := mark.Restore(n, a, lost); e != api.OK || w != word {
				t.Errorf("Restore(%d, %d, %q) = %q, %d, not %q", n, a, lost, w, e, word)
			}
		}
		for got, word := range longerFrom {
			if w, e := mark.Remove(n, a, got); e != api.OK || w != word {
				t.Errorf("Remove(%d, %d, %q) = %q, %d, not %q", n, a, got, w, e, word)
			}
		}
	})
}

// V2
func TestSizes(t *testing.T) {
	for _, n := range []int{1, 2, 3, 4, 5, 6, 7, 8, 9, 11, 14, 15, 26, 31, 44, 62, 63, 64, 65, 99, 119, 127, 164, 199, 200} {
		sum, greatest, least := new(big.Int), sizeOf(t, n, 0), sizeOf(t, n, 1)
		for a := range n + 1 {
			x := sizeOf(t, n, a)
			sum.Add(sum, x)
			if x.Cmp(greatest) > 0 || x.Cmp(least) < 0 {
				t.Errorf("Size(%d, %d) = %v, that of 0 %v, that of 1 %v", n, a, x, greatest, least)
			}
		}
		if all := new(big.Int).Lsh(big.NewInt(1), uint(n)); sum.Cmp(all) != 0 {
			t.Errorf("the codes of %d have %v words, not %v", n, sum, all)
		}
	}
}

// V3
func TestRuns(t *testing.T) {
	r := sequence(11)
	cases := wordsUpTo(9, "01")
	for range 100 {
		cases = append(cases, r.word(api.MaxWord-r.below(10), "01"))
	}
	for _, word := range cases {
		if word != "" && len(shorterOf(t, word)) != runs(word) {
			t.Errorf("Shorter(%q) = %q", word, shorterOf(t, word))
		}
		if len(longerOf(t, word)) != len(word)+2 {
			t.Errorf("Longer(%q) = %q", word, longerOf(t, word))
		}
	}
}

// V4
func TestTenengolts(t *testing.T) {
	digitCodes(6)(func(n, q, a, b int) {
		from := map[string]string{}
		for _, word := range digitsOf(t, n, q, a, b) {
			for _, w := range trueShorter(word) {
				if other, is := from[w]; is {
					t.Errorf("%q comes of %q and %q", w, other, word)
				}
				from[w] = word
			}
		}
		for lost, word := range from {
			if w, e := mark.Found(n, q, a, b, lost); e != api.OK || w != word {
				t.Errorf("Found(%d, %d, %d, %d, %q) = %q, %d, not %q", n, q, a, b, lost, w, e, word)
			}
		}
	})
}

// V5
func TestDistanceAndCommon(t *testing.T) {
	r := sequence(12)
	for range 1000 {
		u, v, w := r.word(r.below(21), "01"), r.word(r.below(21), "01"), r.word(r.below(21), "01")
		if n, c := distanceOf(t, u, v), commonOf(t, u, v); n != len(u)+len(v)-2*len(c) || n != distanceOf(t, v, u) {
			t.Errorf("Distance(%q, %q) = %d, %d backwards; Common %q", u, v, n, distanceOf(t, v, u), c)
		}
		if distanceOf(t, u, w) > distanceOf(t, u, v)+distanceOf(t, v, w) {
			t.Errorf("it is further from %q to %q than by %q", u, w, v)
		}
		if distanceOf(t, u, u) != 0 || u != v && distanceOf(t, u, v) == 0 {
			t.Errorf("Distance(%q, %q) = %d, %d to itself", u, v, distanceOf(t, u, v), distanceOf(t, u, u))
		}
	}
}

// V5
func TestDistanceWithinCodes(t *testing.T) {
	least := 2 * api.MaxWord
	codes(8)(func(n, a int) {
		list := codeOf(t, n, a)
		for i, v := range list {
			for _, w := range list[:i] {
				least = min(least, distanceOf(t, v, w))
			}
		}
	})
	if least != 4 {
		t.Errorf("some words of a code have the distance %d, but none a lesser one", least)
	}
}

// V6
func TestMirrored(t *testing.T) {
	codes(api.MaxList)(func(n, a int) {
		var list []string
		for _, word := range codeOf(t, n, a) {
			list = append(list, backwards(word))
		}
		slices.Sort(list)
		if l := codeOf(t, n, (n+1-a)%(n+1)); !slices.Equal(l, list) {
			t.Errorf("Words(%d, %d) backwards is %q, not %q", n, a, list, l)
		}
	})
	r := sequence(13)
	for range 300 {
		n := r.below(api.MaxWord + 1)
		word := r.word(n, "01")
		if x, y := sumOf(t, word), sumOf(t, changed(word)); x+y != n*(n+1)/2 {
			t.Errorf("Sum(%q) = %d, Sum(%q) = %d", word, x, changed(word), y)
		}
	}
}

// V7
func TestCommonIsPart(t *testing.T) {
	r := sequence(14)
	for range 300 {
		v, w := r.word(r.below(21), "01"), r.word(r.below(21), "01")
		if c := commonOf(t, v, w); !isPart(c, v) || !isPart(c, w) || c != commonOf(t, w, v) {
			t.Errorf("Common(%q, %q) = %q, %q backwards", v, w, c, commonOf(t, w, v))
		}
		v, w = v[:min(len(v), 9)], w[:min(len(w), 11)]
		c := commonOf(t, v, w)
		for part := range parts(v) {
			if isPart(part, w) && (len(part) > len(c) || len(part) == len(c) && part < c) {
				t.Errorf("Common(%q, %q) = %q, but there is %q", v, w, c, part)
			}
		}
	}
}

// R5 and R6: lists are new each time, also behind their ends.
func TestListsAreNew(t *testing.T) {
	calls := []func() ([]string, api.Errno){
		func() ([]string, api.Errno) { return mark.Words(6, 3) },
		func() ([]string, api.Errno) { return mark.Shorter("0100110") },
		func() ([]string, api.Errno) { return mark.Longer("0100110") },
		func() ([]string, api.Errno) { return mark.Digits(4, 3, 1, 2) },
	}
	for i, call := range calls {
		first, e := call()
		if e != api.OK || len(first) < 2 {
			t.Fatalf("call %d: %q, %d", i, first, e)
		}
		want := slices.Clone(first)
		second, _ := call()
		whole := first[:cap(first)]
		for j := range whole {
			whole[j] = "changed"
		}
		third, _ := call()
		if !slices.Equal(second, want) || !slices.Equal(third, want) {
			t.Errorf("call %d: %q, then %q, not %q", i, second, third, want)
		}
	}
}
