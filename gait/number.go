package gait

import (
	"math/bits"
	"strconv"

	"pritchel/api"
)

// maxPrime is the greatest number that has a row of Legendre's.
const maxPrime = 61

// integer is what numbers may be of which squares are added up.
type integer interface {
	~int | ~int8 | ~int16 | ~int32 | ~int64 | ~uint | ~uint8 | ~uint16 | ~uint32 | ~uint64
}

// squares returns the sum of the squares of numbers.
func squares[N integer](numbers []N) N {
	var sum N
	for _, x := range numbers {
		sum += x * x
	}
	return sum
}

// quotient returns the quotient of two numbers above 0.
func quotient(top, bottom int) api.Num {
	common := divisor(top, bottom)
	s := strconv.Itoa(top / common)
	if bottom != common {
		s += "/" + strconv.Itoa(bottom/common)
	}
	return api.Num(s)
}

// divisor returns the greatest common divisor of two numbers above 0.
func divisor(x, y int) int {
	for y != 0 {
		x, y = y, x%y
	}
	return x
}

// isPrime reports whether a number above 1 is a prime.
func isPrime(p int) bool {
	for d := 2; d < p; d++ {
		if p%d == 0 {
			return false
		}
	}
	return true
}

func isPowerOf2(n int) bool {
	return bits.OnesCount(uint(n)) == 1
}

func isPowerOf4(n int) bool {
	return isPowerOf2(n) && bits.TrailingZeros(uint(n))%2 == 0
}

// isOdd reports whether two numbers have an odd number of bits in common.
func isOdd(i, j int) bool {
	return bits.OnesCount(uint(i&j))%2 == 1
}
