package mark

import "pritchel/api"

// kind is a kind of codes.
type kind int

const (
	ofLetters kind = iota
	ofDigits
)

// code is a code of words of n letters below q; b is 0 unless it is one of digits.
type code struct {
	kind       kind
	n, q, a, b int
}

func letterCode(n, a int) code {
	return code{kind: ofLetters, n: n, q: 2, a: a}
}

func digitCode(n, q, a, b int) code {
	return code{kind: ofDigits, n: n, q: q, a: a, b: b}
}

// isUpTo reports whether there is such a code, of words of so many letters at most.
func (c code) isUpTo(most int) bool {
	switch c.kind {
	case ofLetters:
		return isWithin(c.n, 1, most) && isWithin(c.a, 0, c.n)
	case ofDigits:
		return isWithin(c.n, 2, most) && isWithin(c.q, 2, api.MaxDigit) && isWithin(c.a, 0, c.n-1) && isWithin(c.b, 0, c.q-1)
	}
	return false
}

func isWithin(x, low, high int) bool {
	return low <= x && x <= high
}

// has reports whether a word, whose letters are below q, is of the code.
func (c code) has(word string) bool {
	if len(word) != c.n {
		return false
	}
	switch c.kind {
	case ofLetters:
		return sumOf(word)%(c.n+1) == c.a
	case ofDigits:
		return digitSum(word)%c.q == c.b && sumOf(steps(word))%c.n == c.a
	}
	return false
}

// words returns all words of the code, in byte order.
func (c code) words() []string {
	var list []string
	for _, word := range allWords(c.n, c.q) {
		if c.has(word) {
			list = append(list, word)
		}
	}
	return list
}

// oneOf returns the word of a list that is of the code. Where the words of the list come of one word by losing a letter, or by getting one, there are no two.
func (c code) oneOf(list []string) (string, api.Errno) {
	for _, word := range list {
		if c.has(word) {
			return word, api.OK
		}
	}
	return "", api.ErrNone
}
