package herd

import (
	"strconv"

	"pritchel/api"
)

// natural is a natural number, six decimal digits an element, the last ones first, with no element 0 at the end. It is never changed, so that several may share memory.
type natural []uint64

// base leaves room for a product of an element and a number of maxShort digits.
const base = 1_000_000

func small(x uint64) natural {
	var n natural
	for ; x > 0; x /= base {
		n = append(n, x%base)
	}
	return n
}

func product(factors []uint64) natural {
	n := small(1)
	for _, f := range factors {
		n = n.times(small(f))
	}
	return n
}

func (n natural) isZero() bool {
	return len(n) == 0
}

func (n natural) trimmed() natural {
	for len(n) > 0 && n[len(n)-1] == 0 {
		n = n[:len(n)-1]
	}
	return n
}

func (n natural) text() string {
	if n.isZero() {
		return "0"
	}
	last := len(n) - 1
	s := []byte(strconv.FormatUint(n[last], 10))
	for i := last - 1; i >= 0; i-- {
		digits := strconv.FormatUint(base+n[i], 10) // with a 1 in front, so that no zeros are missing
		s = append(s, digits[1:]...)
	}
	return string(s)
}

func (n natural) compare(m natural) int {
	if len(n) != len(m) {
		return len(n) - len(m)
	}
	for i := len(n) - 1; i >= 0; i-- {
		if n[i] < m[i] {
			return -1
		}
		if n[i] > m[i] {
			return 1
		}
	}
	return 0
}

func (n natural) plus(m natural) natural {
	if len(n) < len(m) {
		n, m = m, n
	}
	sum := make(natural, len(n)+1)
	for i := range n {
		s := sum[i] + n[i]
		if i < len(m) {
			s += m[i]
		}
		sum[i], sum[i+1] = s%base, s/base
	}
	return sum.trimmed()
}

func (n natural) times(m natural) natural {
	product := make(natural, len(n)+len(m))
	for i, x := range n {
		carry := uint64(0)
		for j, y := range m {
			p := product[i+j] + x*y + carry
			product[i+j], carry = p%base, p/base
		}
		product[i+len(m)] = carry
	}
	return product.trimmed()
}

// over returns the integer part of n/d, and the rest; d has at most maxShort digits, and is not 0.
func (n natural) over(d uint64) (natural, uint64) {
	quotient := make(natural, len(n))
	rest := uint64(0)
	for i := len(n) - 1; i >= 0; i-- {
		x := rest*base + n[i]
		quotient[i], rest = x/d, x%d
	}
	return quotient.trimmed(), rest
}

// divisor returns the greatest common divisor of two numbers, of which one is not 0.
func divisor(x, y uint64) uint64 {
	for y != 0 {
		x, y = y, x%y
	}
	return x
}

// quotient returns a number over the product of factors of at most maxShort digits.
func quotient(top natural, factors []uint64) api.Num {
	bottom := small(1)
	for _, f := range factors {
		// What remains of a factor has no divisor in common with what remains of top, nor with what that becomes later.
		_, rest := top.over(f)
		common := divisor(f, rest)
		top, _ = top.over(common)
		bottom = bottom.times(small(f / common))
	}
	s := top.text()
	if below := bottom.text(); below != "1" {
		s += "/" + below
	}
	return api.Num(s)
}
