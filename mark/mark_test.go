package mark_test

import (
	"math"
	"slices"
	"strings"
	"testing"

	"pritchel/api"
	"pritchel/mark"
)

// The chapter's examples.
func TestExamples(t *testing.T) {
	if l, e := mark.Words(4, 0); e != api.OK || !slices.Equal(l, []string{"0000", "0110", "1001", "1111"}) {
		t.Errorf("Words(4, 0) = %q, %d", l, e)
	}
	if x, e := mark.Size(4, 0); e != api.OK || x != "4" {
		t.Errorf("Size(4, 0) = %q, %d", x, e)
	}
	for word, want := range map[string]string{"000": "0000", "110": "0110"} {
		if w, e := mark.Restore(4, 0, word); e != api.OK || w != want {
			t.Errorf("Restore(4, 0, %q) = %q, %d", word, w, e)
		}
	}
	if w, e := mark.Remove(4, 0, "10001"); e != api.OK || w != "1001" {
		t.Errorf("Remove(4, 0, 10001) = %q, %d", w, e)
	}
	if w, e := mark.Common("0101", "1010"); e != api.OK || w != "010" {
		t.Errorf("Common(0101, 1010) = %q, %d", w, e)
	}
	if n, e := mark.Distance("0101", "1010"); e != api.OK || n != 2 {
		t.Errorf("Distance(0101, 1010) = %d, %d", n, e)
	}
	if w, e := mark.Steps("0231"); e != api.OK || w != "110" {
		t.Errorf("Steps(0231) = %q, %d", w, e)
	}
}

func TestSum(t *testing.T) {
	for _, word := range wordsUpTo(8, "01") {
		if n, e := mark.Sum(word); e != api.OK || n != trueSum(word) {
			t.Errorf("Sum(%q) = %d, %d", word, n, e)
		}
	}
	if n, e := mark.Sum(strings.Repeat("1", api.MaxWord)); e != api.OK || n != 210 {
		t.Errorf("Sum of 20 letters 1: %d, %d", n, e)
	}
}

func TestSize(t *testing.T) {
	for _, n := range []int{1, 2, 3, 4, 5, 6, 7, 8, 9, 10, 11, 12, 13, 20, 21, 62, 63, 64, 65, 66, 104, 127, 128, 199, 200} {
		for a, want := range trueSizes(n) {
			if x := sizeOf(t, n, a); x.Cmp(want) != 0 {
				t.Errorf("Size(%d, %d) = %v, not %v", n, a, x, want)
			}
		}
	}
	for n := 1; n <= api.MaxList; n++ {
		for a := range n + 1 {
			if x, l := sizeOf(t, n, a), codeOf(t, n, a); x.Int64() != int64(len(l)) {
				t.Errorf("Size(%d, %d) = %v, but there are %d words", n, a, x, len(l))
			}
		}
	}
}

func TestWords(t *testing.T) {
	for n := 1; n <= api.MaxList; n++ {
		for a := range n + 1 {
			var want []string
			for _, word := range wordsOf(n, "01") {
				if isOfCode(n, a, word) {
					want = append(want, word)
				}
			}
			if l := codeOf(t, n, a); !slices.Equal(l, want) {
				t.Errorf("Words(%d, %d) = %q, not %q", n, a, l, want)
			}
		}
	}
}

// origin returns the one word of a list that is of a code, or ErrNone.
func origin(t *testing.T, list []string, isOf func(word string) bool) (string, api.Errno) {
	t.Helper()
	var all []string
	for _, word := range list {
		if isOf(word) {
			all = append(all, word)
		}
	}
	if len(all) == 0 {
		return "", api.ErrNone
	}
	if len(all) > 1 {
		t.Errorf("%q are all of the code", all)
	}
	return all[0], api.OK
}

func TestRestoreAndRemove(t *testing.T) {
	for n := 1; n <= 7; n++ {
		for a := range n + 1 {
			isOf := func(word string) bool { return isOfCode(n, a, word) }
			for _, word := range wordsUpTo(n+2, "01") {
				want, wantError := origin(t, trueLonger(word, "01"), isOf)
				if w, e := mark.Restore(n, a, word); w != want || e != wantError {
					t.Errorf("Restore(%d, %d, %q) = %q, %d, not %q, %d", n, a, word, w, e, want, wantError)
				}
				want, wantError = origin(t, trueShorter(word), isOf)
				if w, e := mark.Remove(n, a, word); w != want || e != wantError {
					t.Errorf("Remove(%d, %d, %q) = %q, %d, not %q, %d", n, a, word, w, e, want, wantError)
				}
			}
		}
	}
}

// Any word with a letter less can be restored, but a letter more may have come from elsewhere.
func TestRemoveFindsNone(t *testing.T) {
	for n := 2; n <= 7; n++ {
		none := 0
		for a := range n + 1 {
			for _, word := range wordsOf(n-1, "01") {
				if w, e := mark.Restore(n, a, word); e != api.OK {
					t.Errorf("Restore(%d, %d, %q) = %q, %d", n, a, word, w, e)
				}
			}
			for _, word := range wordsOf(n+1, "01") {
				if _, e := mark.Remove(n, a, word); e == api.ErrNone {
					none++
				}
			}
		}
		if none == 0 {
			t.Errorf("all words of %d letters come of all codes of %d", n+1, n)
		}
	}
}

func TestLongWords(t *testing.T) {
	r := sequence(1)
	for range 300 {
		n := api.MaxWord - r.below(3)
		word := r.word(n, "01")
		a := trueSum(word) % (n + 1)
		i := r.below(n)
		if w, e := mark.Restore(n, a, word[:i]+word[i+1:]); e != api.OK || w != word {
			t.Errorf("%q without the letter %d: %q, %d", word, i+1, w, e)
		}
		i = r.below(n + 1)
		if w, e := mark.Remove(n, a, word[:i]+r.word(1, "01")+word[i:]); e != api.OK || w != word {
			t.Errorf("%q with a letter before the letter %d: %q, %d", word, i+1, w, e)
		}
	}
}

func TestShorterAndLonger(t *testing.T) {
	r := sequence(2)
	cases := wordsUpTo(8, "01")
	for range 50 {
		cases = append(cases, r.word(api.MaxWord-r.below(2), "01"))
	}
	for _, word := range cases {
		if word != "" && !slices.Equal(shorterOf(t, word), trueShorter(word)) {
			t.Errorf("Shorter(%q) = %q", word, shorterOf(t, word))
		}
		if !slices.Equal(longerOf(t, word), trueLonger(word, "01")) {
			t.Errorf("Longer(%q) = %q", word, longerOf(t, word))
		}
	}
	if l, e := mark.Shorter(""); len(l) > 0 || e != api.ErrNone {
		t.Errorf("Shorter of the empty word: %q, %d", l, e)
	}
	if l, e := mark.Shorter("1"); e != api.OK || !slices.Equal(l, []string{""}) {
		t.Errorf("Shorter(1) = %q, %d", l, e)
	}
	if l, e := mark.Longer(""); e != api.OK || !slices.Equal(l, []string{"0", "1"}) {
		t.Errorf("Longer of the empty word: %q, %d", l, e)
	}
}

func TestCommon(t *testing.T) {
	for _, v := range wordsUpTo(5, "01") {
		for _, w := range wordsUpTo(5, "01") {
			if c := commonOf(t, v, w); c != trueCommon(v, w) {
				t.Errorf("Common(%q, %q) = %q, not %q", v, w, c, trueCommon(v, w))
			}
		}
	}
	r := sequence(3)
	for range 60 {
		v, w := r.word(r.below(13), "01"), r.word(r.below(13), "01")
		if c := commonOf(t, v, w); c != trueCommon(v, w) {
			t.Errorf("Common(%q, %q) = %q, not %q", v, w, c, trueCommon(v, w))
		}
	}
}

func TestDistance(t *testing.T) {
	const length = 5
	for _, v := range wordsUpTo(length, "01") {
		far := trueDistances(v, 2*length)
		for _, w := range wordsUpTo(length, "01") {
			if n := distanceOf(t, v, w); n != far[w] {
				t.Errorf("Distance(%q, %q) = %d, not %d", v, w, n, far[w])
			}
		}
	}
	if n := distanceOf(t, strings.Repeat("0", api.MaxWord), strings.Repeat("1", api.MaxWord)); n != 2*api.MaxWord {
		t.Errorf("the distance of 20 letters 0 and 20 letters 1 is %d", n)
	}
}

func TestSteps(t *testing.T) {
	r := sequence(4)
	cases := wordsUpTo(5, "0123")
	for range 50 {
		cases = append(cases, r.word(api.MaxWord-r.below(2), "0123"))
	}
	for _, word := range cases {
		if w, e := mark.Steps(word); e != api.OK || w != trueSteps(word) {
			t.Errorf("Steps(%q) = %q, %d, not %q", word, w, e, trueSteps(word))
		}
	}
	for _, word := range []string{"", "0", "3"} {
		if w, e := mark.Steps(word); e != api.OK || w != "" {
			t.Errorf("Steps(%q) = %q, %d", word, w, e)
		}
	}
}

// digitCodes gives all codes of digits of the lengths up to some one.
func digitCodes(longest int) func(yield func(n, q, a, b int)) {
	return func(yield func(n, q, a, b int)) {
		for n := 2; n <= longest; n++ {
			for q := 2; q <= api.MaxDigit; q++ {
				for ab := range n * q {
					yield(n, q, ab/q, ab%q)
				}
			}
		}
	}
}

func TestDigits(t *testing.T) {
	digitCodes(6)(func(n, q, a, b int) {
		var want []string
		for _, word := range wordsOf(n, digitsBelow(q)) {
			if isOfDigits(n, q, a, b, word) {
				want = append(want, word)
			}
		}
		if l := digitsOf(t, n, q, a, b); !slices.Equal(l, want) {
			t.Errorf("Digits(%d, %d, %d, %d) = %q, not %q", n, q, a, b, l, want)
		}
	})
	if l := digitsOf(t, 2, 2, 0, 0); len(l) > 0 {
		t.Errorf("Digits(2, 2, 0, 0) = %q, of none", l)
	}
}

func TestFound(t *testing.T) {
	found, none := 0, 0
	digitCodes(5)(func(n, q, a, b int) {
		isOf := func(word string) bool { return isOfDigits(n, q, a, b, word) }
		for _, word := range wordsUpTo(min(n+1, 5), digitsBelow(q)) {
			want, wantError := origin(t, trueLonger(word, digitsBelow(q)), isOf)
			if w, e := mark.Found(n, q, a, b, word); w != want || e != wantError {
				t.Errorf("Found(%d, %d, %d, %d, %q) = %q, %d, not %q, %d", n, q, a, b, word, w, e, want, wantError)
			}
			if wantError == api.OK {
				found++
			} else if len(word) == n-1 {
				none++
			}
		}
	})
	if found < 1000 || none < 1000 {
		t.Errorf("%d words were found, %d of the right length were not", found, none)
	}
}

func TestFoundLong(t *testing.T) {
	r := sequence(5)
	for range 300 {
		n, q := api.MaxWord-r.below(3), 2+r.below(3)
		word := r.word(n, digitsBelow(q))
		a, b := trueSum(trueSteps(word))%n, 0
		for _, digit := range word {
			b = (b + int(digit-'0')) % q
		}
		i := r.below(n)
		if w, e := mark.Found(n, q, a, b, word[:i]+word[i+1:]); e != api.OK || w != word {
			t.Errorf("%q without the digit %d: %q, %d", word, i+1, w, e)
		}
	}
}

var (
	atLimit  = strings.Repeat("1", api.MaxWord)
	long     = atLimit + "0"
	longer   = long + "0"
	longBad  = strings.Repeat("x", api.MaxWord+1)
	longest  = strings.Repeat("x", api.MaxWord+2)
	badWords = []string{"2", "01 ", "0a1", "/", "01:", "-1", "\x00", "\xff", "0\xb1", "é", "１", strings.Repeat("1", api.MaxWord-1) + "2"}
)

func TestErrorsOfWords(t *testing.T) {
	calls := map[string]func(word string) (bool, api.Errno){
		"Sum":           func(w string) (bool, api.Errno) { n, e := mark.Sum(w); return n == 0, e },
		"Shorter":       func(w string) (bool, api.Errno) { l, e := mark.Shorter(w); return len(l) == 0, e },
		"Longer":        func(w string) (bool, api.Errno) { l, e := mark.Longer(w); return len(l) == 0, e },
		"Common(w, 0)":  func(w string) (bool, api.Errno) { c, e := mark.Common(w, "0"); return c == "", e },
		"Common(0, w)":  func(w string) (bool, api.Errno) { c, e := mark.Common("0", w); return c == "", e },
		"Distance(w, )": func(w string) (bool, api.Errno) { n, e := mark.Distance(w, ""); return n == 0, e },
		"Distance(, w)": func(w string) (bool, api.Errno) { n, e := mark.Distance("", w); return n == 0, e },
		"Restore":       func(w string) (bool, api.Errno) { c, e := mark.Restore(api.MaxWord, 0, w); return c == "", e },
		"Restore(0, 0)": func(w string) (bool, api.Errno) { c, e := mark.Restore(0, 0, w); return c == "", e },
	}
	for name, call := range calls {
		if _, e := call(atLimit); e == api.ErrLong || e == api.ErrForm {
			t.Errorf("%s of %q: %d", name, atLimit, e)
		}
		for _, word := range []string{long, longer, longBad, longest} {
			if none, e := call(word); !none || e != api.ErrLong {
				t.Errorf("%s of %q: %v, %d", name, word, none, e)
			}
		}
		for _, word := range badWords {
			if none, e := call(word); !none || e != api.ErrForm {
				t.Errorf("%s of %q: %v, %d", name, word, none, e)
			}
		}
	}
}

// One word that is too long comes before another one that is malformed.
func TestErrorsOfTwoWords(t *testing.T) {
	for _, pair := range [][2]string{{"x", long}, {long, "x"}, {longBad, "x"}, {"x", longBad}} {
		if c, e := mark.Common(pair[0], pair[1]); c != "" || e != api.ErrLong {
			t.Errorf("Common(%q) = %q, %d", pair, c, e)
		}
		if n, e := mark.Distance(pair[0], pair[1]); n != 0 || e != api.ErrLong {
			t.Errorf("Distance(%q) = %d, %d", pair, n, e)
		}
	}
}

func TestErrorsOfRemove(t *testing.T) {
	for _, n := range []int{0, api.MaxWord} {
		for _, word := range []string{longer, longest} {
			if w, e := mark.Remove(n, 0, word); w != "" || e != api.ErrLong {
				t.Errorf("Remove(%d, 0, %q) = %q, %d", n, word, w, e)
			}
		}
		for _, word := range append([]string{longBad}, badWords...) {
			if w, e := mark.Remove(n, 0, word); w != "" || e != api.ErrForm {
				t.Errorf("Remove(%d, 0, %q) = %q, %d", n, word, w, e)
			}
		}
	}
	if w, e := mark.Remove(api.MaxWord, trueSum(atLimit)%(api.MaxWord+1), long); e != api.OK || w != atLimit {
		t.Errorf("Remove of %q = %q, %d", long, w, e)
	}
}

func TestErrorsOfDigits(t *testing.T) {
	for _, word := range []string{long, longBad} {
		if w, e := mark.Steps(word); w != "" || e != api.ErrLong {
			t.Errorf("Steps(%q) = %q, %d", word, w, e)
		}
		if w, e := mark.Found(0, 0, 0, 0, word); w != "" || e != api.ErrLong {
			t.Errorf("Found of %q: %q, %d", word, w, e)
		}
	}
	for _, word := range []string{"4", "01 ", "3x", "/", "30:", "\x00", "\xff", "\xb3", "é", strings.Repeat("3", api.MaxWord-1) + "4"} {
		if w, e := mark.Steps(word); w != "" || e != api.ErrForm {
			t.Errorf("Steps(%q) = %q, %d", word, w, e)
		}
		if w, e := mark.Found(0, 0, 0, 0, word); w != "" || e != api.ErrForm {
			t.Errorf("Found of %q: %q, %d", word, w, e)
		}
	}
	for q := 2; q < api.MaxDigit; q++ {
		for _, word := range []string{"3", "01", "0123", "3210"} {
			if w, e := mark.Found(5, q, 0, 0, word); e == api.ErrArg != strings.ContainsAny(word, "0123"[q:]) || e == api.ErrForm {
				t.Errorf("Found(5, %d, 0, 0, %q) = %q, %d", q, word, w, e)
			}
		}
	}
}

func TestRangesOfCodes(t *testing.T) {
	ranges := []struct {
		name string
		most int
		call func(n, a int) (bool, api.Errno)
	}{
		{"Size", 200, func(n, a int) (bool, api.Errno) { x, e := mark.Size(n, a); return x == "", e }},
		{"Words", api.MaxList, func(n, a int) (bool, api.Errno) { l, e := mark.Words(n, a); return len(l) == 0, e }},
		{"Restore", api.MaxWord, func(n, a int) (bool, api.Errno) { w, e := mark.Restore(n, a, "0"); return w == "", e }},
		{"Remove", api.MaxWord, func(n, a int) (bool, api.Errno) { w, e := mark.Remove(n, a, "00000"); return w == "", e }},
	}
	for _, c := range ranges {
		for _, n := range []int{math.MinInt, -5, -1, 0, 1, 2, 7, c.most, c.most + 1, c.most + 2, math.MaxInt} {
			for _, a := range []int{math.MinInt, -1, 0, n - 1, n, n + 1, math.MaxInt} {
				none, e := c.call(n, a)
				if good := n >= 1 && n <= c.most && a >= 0 && a <= n; good == (e == api.ErrArg) || e != api.OK && !none {
					t.Errorf("%s(%d, %d): %v, %d", c.name, n, a, none, e)
				}
			}
		}
	}
}

func TestRangesOfCodesOfDigits(t *testing.T) {
	ranges := []struct {
		name string
		most int
		call func(n, q, a, b int) (bool, api.Errno)
	}{
		{"Digits", 6, func(n, q, a, b int) (bool, api.Errno) { l, e := mark.Digits(n, q, a, b); return len(l) == 0, e }},
		{"Found", api.MaxWord, func(n, q, a, b int) (bool, api.Errno) { w, e := mark.Found(n, q, a, b, "1"); return w == "", e }},
	}
	for _, c := range ranges {
		for _, n := range []int{math.MinInt, -1, 0, 1, 2, 3, c.most, c.most + 1, math.MaxInt} {
			for _, q := range []int{math.MinInt, 0, 1, 2, 3, 4, 5, math.MaxInt} {
				for _, a := range []int{math.MinInt, -1, 0, n - 1, n, math.MaxInt} {
					for _, b := range []int{math.MinInt, -1, 0, q - 1, q, math.MaxInt} {
						none, e := c.call(n, q, a, b)
						good := n >= 2 && n <= c.most && q >= 2 && q <= 4 && a >= 0 && a < n && b >= 0 && b < q
						if good == (e == api.ErrArg) || e != api.OK && !none {
							t.Errorf("%s(%d, %d, %d, %d): %v, %d", c.name, n, q, a, b, none, e)
						}
					}
				}
			}
		}
	}
}
