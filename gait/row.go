package gait

import (
	"iter"
	"strings"

	"pritchel/api"
)

// rowsError returns what is wrong with rows.
func rowsError(all ...string) api.Errno {
	for _, s := range all {
		if len(s) > api.MaxSigns {
			return api.ErrLong
		}
	}
	for _, s := range all {
		if s == "" || strings.Trim(s, "+-") != "" {
			return api.ErrForm
		}
	}
	return api.OK
}

// rowOf returns a row of n signs, with '-' where it is said so.
func rowOf(n int, isMinus func(i int) bool) string {
	s := make([]byte, n)
	for i := range s {
		s[i] = '+'
		if isMinus(i) {
			s[i] = '-'
		}
	}
	return string(s)
}

// rows yields all rows of n signs in byte order.
func rows(n int) iter.Seq[string] {
	return func(yield func(string) bool) {
		for number := range 1 << n {
			if !yield(rowOf(n, func(i int) bool { return number>>(n-1-i)&1 == 1 })) {
				return
			}
		}
	}
}

func opposite(sign byte) byte {
	if sign == '+' {
		return '-'
	}
	return '+'
}

// changed returns a row with all signs changed.
func changed(s string) string {
	return rowOf(len(s), func(i int) bool { return s[i] == '+' })
}

// product returns the row of the products of the signs of two rows.
func product(s, t string) string {
	return rowOf(len(s), func(i int) bool { return s[i] != t[i] })
}

// likeness returns the sum of the products of the signs of two rows.
func likeness(s, t string) int {
	sum := 0
	for i := range len(s) {
		if s[i] == t[i] {
			sum++
		} else {
			sum--
		}
	}
	return sum
}

func likenesses(s string) []int {
	l := make([]int, len(s))
	for k := range l {
		l[k] = likeness(s[:len(s)-k], s[k:])
	}
	return l
}

func likenessesAround(s string) []int {
	l := make([]int, len(s))
	for k := range l {
		l[k] = likeness(s, s[k:]+s[:k])
	}
	return l
}

func isBarker(s string) bool {
	for _, x := range likenesses(s)[1:] {
		if !isWithin(x, -1, 1) {
			return false
		}
	}
	return true
}
