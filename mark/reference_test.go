package mark_test

import (
	"math/big"
	"slices"
	"strings"
	"testing"

	"pritchel/api"
	"pritchel/mark"
)

// This file works by the definitions of the chapter, as slowly and plainly as they are written, and makes cases.

// wordsOf gives all words of n of the letters, in byte order.
func wordsOf(n int, letters string) []string {
	if n == 0 {
		return []string{""}
	}
	var list []string
	for _, letter := range letters {
		for _, rest := range wordsOf(n-1, letters) {
			list = append(list, string(letter)+rest)
		}
	}
	return list
}

// wordsUpTo gives all words of at most n of the letters.
func wordsUpTo(n int, letters string) []string {
	var list []string
	for length := range n + 1 {
		list = append(list, wordsOf(length, letters)...)
	}
	return list
}

// digitsBelow are the letters of words of digits below q.
func digitsBelow(q int) string {
	return "0123"[:q]
}

func trueSum(word string) int {
	sum := 0
	for i, letter := range word {
		if letter == '1' {
			sum += i + 1
		}
	}
	return sum
}

func trueSteps(digits string) string {
	var steps strings.Builder
	for i := range len(digits) {
		if i+1 < len(digits) && digits[i+1] >= digits[i] {
			steps.WriteString("1")
		} else if i+1 < len(digits) {
			steps.WriteString("0")
		}
	}
	return steps.String()
}

func isOfCode(n, a int, word string) bool {
	return len(word) == n && (trueSum(word)-a)%(n+1) == 0
}

func isOfDigits(n, q, a, b int, word string) bool {
	total := 0
	for _, digit := range word {
		total += int(digit - '0')
	}
	return len(word) == n && (total-b)%q == 0 && (trueSum(trueSteps(word))-a)%n == 0
}

// sorted returns each string of a set once, in byte order.
func sorted(set map[string]bool) []string {
	var list []string
	for word := range set {
		list = append(list, word)
	}
	slices.Sort(list)
	return list
}

func trueShorter(word string) []string {
	set := map[string]bool{}
	for i := range word {
		set[word[:i]+word[i+1:]] = true
	}
	return sorted(set)
}

func trueLonger(word, letters string) []string {
	set := map[string]bool{}
	for i := 0; i <= len(word); i++ {
		for _, letter := range letters {
			set[word[:i]+string(letter)+word[i:]] = true
		}
	}
	return sorted(set)
}

// parts returns all strings that come of a word by taking away letters.
func parts(word string) map[string]bool {
	set := map[string]bool{"": true}
	for _, letter := range word {
		for _, part := range sorted(set) {
			set[part+string(letter)] = true
		}
	}
	return set
}

// isPart reports whether a string comes of a word by taking away letters.
func isPart(part, word string) bool {
	for i := range len(word) {
		if part != "" && part[0] == word[i] {
			part = part[1:]
		}
	}
	return part == ""
}

func trueCommon(s, t string) string {
	best := ""
	others := parts(t)
	for _, part := range sorted(parts(s)) {
		if others[part] && len(part) > len(best) {
			best = part
		}
	}
	return best
}

// trueDistances returns how far all words of at most that length are from one, when one letter after the other is taken away or put in, and no word on the way is longer.
func trueDistances(from string, length int) map[string]int {
	far := map[string]int{from: 0}
	for list := []string{from}; len(list) > 0; list = list[1:] {
		next := trueShorter(list[0])
		if len(list[0]) < length {
			next = append(next, trueLonger(list[0], "01")...)
		}
		for _, word := range next {
			if _, known := far[word]; !known {
				far[word] = far[list[0]] + 1
				list = append(list, word)
			}
		}
	}
	return far
}

// runs returns the number of runs of equal letters.
func runs(word string) int {
	number := 0
	for i := range word {
		if i == 0 || word[i] != word[i-1] {
			number++
		}
	}
	return number
}

func backwards(word string) string {
	letters := []byte(word)
	slices.Reverse(letters)
	return string(letters)
}

// changed returns a word with all letters changed.
func changed(word string) string {
	return strings.NewReplacer("0", "1", "1", "0").Replace(word)
}

// trueSizes returns how many words each code of n has: the letters are put in one after the other, and of the sums themselves, not of what they leave, there are so many.
func trueSizes(n int) []*big.Int {
	ways := []*big.Int{big.NewInt(1)}
	for i := 1; i <= n; i++ {
		next := make([]*big.Int, len(ways)+i)
		for sum := range next {
			next[sum] = new(big.Int)
			if sum < len(ways) {
				next[sum].Add(next[sum], ways[sum])
			}
			if sum >= i {
				next[sum].Add(next[sum], ways[sum-i])
			}
		}
		ways = next
	}
	sizes := make([]*big.Int, n+1)
	for a := range sizes {
		sizes[a] = new(big.Int)
		for sum := a; sum < len(ways); sum += n + 1 {
			sizes[a].Add(sizes[a], ways[sum])
		}
	}
	return sizes
}

// sequence makes numbers for cases: the same ones in every run.
type sequence uint64

func (r *sequence) below(n int) int {
	*r = *r*6364136223846793005 + 1442695040888963407
	return int(*r >> 33 % sequence(n))
}

func (r *sequence) word(n int, letters string) string {
	word := make([]byte, n)
	for i := range word {
		word[i] = letters[r.below(len(letters))]
	}
	return string(word)
}

func sizeOf(t *testing.T, n, a int) *big.Int {
	t.Helper()
	x, e := mark.Size(n, a)
	size, is := new(big.Int).SetString(string(x), 10)
	if e != api.OK || !is || size.String() != string(x) {
		t.Fatalf("Size(%d, %d) = %q, %d", n, a, x, e)
	}
	return size
}

func codeOf(t *testing.T, n, a int) []string {
	t.Helper()
	list, e := mark.Words(n, a)
	if e != api.OK {
		t.Fatalf("Words(%d, %d): %d", n, a, e)
	}
	return list
}

func digitsOf(t *testing.T, n, q, a, b int) []string {
	t.Helper()
	list, e := mark.Digits(n, q, a, b)
	if e != api.OK {
		t.Fatalf("Digits(%d, %d, %d, %d): %d", n, q, a, b, e)
	}
	return list
}

func sumOf(t *testing.T, word string) int {
	t.Helper()
	sum, e := mark.Sum(word)
	if e != api.OK {
		t.Fatalf("Sum(%q): %d", word, e)
	}
	return sum
}

func shorterOf(t *testing.T, word string) []string {
	t.Helper()
	list, e := mark.Shorter(word)
	if e != api.OK {
		t.Fatalf("Shorter(%q): %d", word, e)
	}
	return list
}

func longerOf(t *testing.T, word string) []string {
	t.Helper()
	list, e := mark.Longer(word)
	if e != api.OK {
		t.Fatalf("Longer(%q): %d", word, e)
	}
	return list
}

func commonOf(t *testing.T, v, w string) string {
	t.Helper()
	word, e := mark.Common(v, w)
	if e != api.OK {
		t.Fatalf("Common(%q, %q): %d", v, w, e)
	}
	return word
}

func distanceOf(t *testing.T, v, w string) int {
	t.Helper()
	far, e := mark.Distance(v, w)
	if e != api.OK {
		t.Fatalf("Distance(%q, %q): %d", v, w, e)
	}
	return far
}
