package stock

import (
	"math/bits"
	"strconv"
)

// natural is a natural number, 64 bits an element, the last ones first, with no element 0 at the end. It is never changed, so that several may share memory.
type natural []uint64

// width is how many decimal digits are read or written at once, and base is 10 to that power.
const (
	width = 18
	base  = 1_000_000_000_000_000_000
)

func small(x uint64) natural {
	return natural{x}.trimmed()
}

// naturalOf reads decimal digits.
func naturalOf(digits string) natural {
	var n natural
	for len(digits) > 0 {
		count := (len(digits)-1)%width + 1 // at first what is left over, so that then all have the same width
		x, _ := strconv.ParseUint(digits[:count], 10, 64)
		n = n.times(base).plus(small(x))
		digits = digits[count:]
	}
	return n
}

func (n natural) trimmed() natural {
	for len(n) > 0 && n[len(n)-1] == 0 {
		n = n[:len(n)-1]
	}
	return n
}

func (n natural) text() string {
	rest, last := n.over(base)
	if len(rest) == 0 {
		return strconv.FormatUint(last, 10)
	}
	return rest.text() + strconv.FormatUint(base+last, 10)[1:] // with a 1 in front, so that no zeros are missing
}

func (n natural) compare(m natural) int {
	if len(n) != len(m) {
		return len(n) - len(m)
	}
	for i := len(n) - 1; i >= 0; i-- {
		if n[i] < m[i] {
			return -1
		}
		if n[i] > m[i] {
			return 1
		}
	}
	return 0
}

func (n natural) plus(m natural) natural {
	if len(n) < len(m) {
		n, m = m, n
	}
	sum := make(natural, len(n)+1)
	copy(sum, m)
	carry := uint64(0)
	for i, x := range n {
		sum[i], carry = bits.Add64(x, sum[i], carry)
	}
	sum[len(n)] = carry
	return sum.trimmed()
}

// minus returns n less m, which is not greater.
func (n natural) minus(m natural) natural {
	rest := make(natural, len(n))
	copy(rest, m)
	borrow := uint64(0)
	for i, x := range n {
		rest[i], borrow = bits.Sub64(x, rest[i], borrow)
	}
	return rest.trimmed()
}

func (n natural) times(factor uint64) natural {
	product := make(natural, len(n)+1)
	carry := uint64(0)
	for i, x := range n {
		high, low := bits.Mul64(x, factor)
		sum, more := bits.Add64(low, carry, 0)
		product[i], carry = sum, high+more
	}
	product[len(n)] = carry
	return product.trimmed()
}

// over returns the integer part of n/d, and the rest; d is not 0.
func (n natural) over(d uint64) (natural, uint64) {
	quotient := make(natural, len(n))
	rest := uint64(0)
	for i := len(n) - 1; i >= 0; i-- {
		quotient[i], rest = bits.Div64(rest, n[i], d)
	}
	return quotient.trimmed(), rest
}

// odd returns n, which is not 0, without its factors 2.
func (n natural) odd() natural {
	for n[0] == 0 {
		n = n[1:]
	}
	twos := bits.TrailingZeros64(n[0])
	odd := make(natural, len(n))
	for i, x := range n {
		odd[i] = x >> twos
		if i > 0 {
			odd[i-1] |= x << (64 - twos)
		}
	}
	return odd.trimmed()
}

// coprime reports whether n and m, of which m is 2 or more, have no common divisor above 1.
func coprime(n, m natural) bool {
	if len(n) == 0 || n[0]&1 == 0 && m[0]&1 == 0 {
		return false
	}
	n, m = n.odd(), m.odd()
	for n.compare(m) != 0 {
		if n.compare(m) < 0 {
			n, m = m, n
		}
		n = n.minus(m).odd()
	}
	return n.compare(small(1)) == 0
}
