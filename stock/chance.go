package stock

import (
	"strconv"
	"strings"

	"pritchel/api"
)

// maxShort is how many digits the numerator and the denominator of a chance may have.
const maxShort = 3

// isNum reports whether a Num is valid.
func isNum(x api.Num) bool {
	text, minus := strings.CutPrefix(string(x), "-")
	top, bottom, divided := strings.Cut(text, "/")
	if !isDecimal(top) || minus && top == "0" {
		return false
	}
	if !divided {
		return true
	}
	return isDecimal(bottom) && bottom != "0" && bottom != "1" && coprime(naturalOf(top), naturalOf(bottom))
}

// isDecimal reports whether these are digits as in a Num.
func isDecimal(s string) bool {
	if s == "" || len(s) > api.MaxDigits || s[0] == '0' && s != "0" {
		return false
	}
	for i := range len(s) {
		if s[i] < '0' || s[i] > '9' {
			return false
		}
	}
	return true
}

// chance is a rational number that is 0 or more.
type chance struct {
	top, bottom uint64
}

// chanceOf reads a valid Num, and reports whether it is in its range.
func chanceOf(x api.Num) (chance, bool) {
	numerator, denominator, divided := strings.Cut(string(x), "/")
	if !divided {
		denominator = "1"
	}
	top, is := shortOf(numerator)
	bottom, are := shortOf(denominator)
	return chance{top, bottom}, is && are
}

// shortOf reads a number of at most maxShort digits, and reports whether it is one.
func shortOf(digits string) (uint64, bool) {
	x, err := strconv.ParseUint(digits, 10, 64)
	return x, err == nil && len(digits) <= maxShort
}

// partsOf returns valid Nums in parts of which whole are 1, and reports whether they are chances with the sum 1.
func partsOf(need []api.Num) (parts []uint64, whole uint64, sure bool) {
	if len(need) > api.MaxNeed+1 {
		return nil, 0, false
	}
	chances := make([]chance, len(need))
	whole = 1
	for i, x := range need {
		c, is := chanceOf(x)
		if !is {
			return nil, 0, false
		}
		chances[i] = c
		whole *= c.bottom / divisor(whole, c.bottom)
	}
	sum := uint64(0)
	for _, c := range chances {
		part := c.top * (whole / c.bottom)
		parts = append(parts, part)
		sum += part
	}
	return parts, whole, sum == whole
}

// divisor returns the greatest common divisor of two numbers, of which one is not 0.
func divisor(x, y uint64) uint64 {
	for y != 0 {
		x, y = y, x%y
	}
	return x
}

// quotient returns a number over a power of another one.
func quotient(top natural, factor uint64, power int) api.Num {
	bottom := small(1)
	for range power {
		// What remains of a factor has no divisor in common with what remains of top, nor with what that becomes later.
		_, rest := top.over(factor)
		common := divisor(factor, rest)
		top, _ = top.over(common)
		bottom = bottom.times(factor / common)
	}
	s := top.text()
	if below := bottom.text(); below != "1" {
		s += "/" + below
	}
	return api.Num(s)
}
