package turn

import (
	"math/bits"
	"strconv"
)

// natural is a natural number, nine decimal digits an element, the last ones first, with no element 0 at the end. It is never changed, so that several may share memory.
type natural []uint64

const (
	width = 9
	base  = 1_000_000_000
)

func small(x int64) natural {
	return naturalOf(strconv.FormatInt(x, 10))
}

// naturalOf reads decimal digits.
func naturalOf(digits string) natural {
	var n natural
	for end := len(digits); end > 0; end -= width {
		element := uint64(0)
		for _, d := range []byte(digits[max(end-width, 0):end]) {
			element = 10*element + uint64(d-'0')
		}
		n = append(n, element)
	}
	return n.trimmed()
}

func (n natural) trimmed() natural {
	for len(n) > 0 && n[len(n)-1] == 0 {
		n = n[:len(n)-1]
	}
	return n
}

func (n natural) text() string {
	if len(n) == 0 {
		return "0"
	}
	last := len(n) - 1
	s := []byte(strconv.FormatUint(n[last], 10))
	for i := last - 1; i >= 0; i-- {
		digits := strconv.FormatUint(base+n[i], 10) // with a 1 in front, so that no zeros are missing
		s = append(s, digits[1:]...)
	}
	return string(s)
}

func (n natural) compare(m natural) int {
	if len(n) != len(m) {
		return len(n) - len(m)
	}
	for i := len(n) - 1; i >= 0; i-- {
		if n[i] < m[i] {
			return -1
		}
		if n[i] > m[i] {
			return 1
		}
	}
	return 0
}

func (n natural) plus(m natural) natural {
	if len(n) < len(m) {
		n, m = m, n
	}
	sum := make(natural, len(n)+1)
	for i := range n {
		s := sum[i] + n[i]
		if i < len(m) {
			s += m[i]
		}
		sum[i], sum[i+1] = s%base, s/base
	}
	return sum.trimmed()
}

// minus returns n less m, which is not greater.
func (n natural) minus(m natural) natural {
	rest := make(natural, len(n))
	borrow := uint64(0)
	for i := range n {
		less := borrow
		if i < len(m) {
			less += m[i]
		}
		rest[i], borrow = n[i]-less, 0
		if n[i] < less {
			rest[i], borrow = n[i]+base-less, 1
		}
	}
	return rest.trimmed()
}

func (n natural) times(m natural) natural {
	product := make(natural, len(n)+len(m))
	for i, x := range n {
		carry := uint64(0)
		for j, y := range m {
			p := product[i+j] + x*y + carry
			product[i+j], carry = p%base, p/base
		}
		product[i+len(m)] = carry
	}
	return product.trimmed()
}

// over returns the integer part of n/m, and the rest; m is not 0.
func (n natural) over(m natural) (natural, natural) {
	if n.compare(m) < 0 {
		return nil, n
	}
	quotient, rest := n.over(m.plus(m))
	quotient = quotient.plus(quotient)
	if rest.compare(m) < 0 {
		return quotient, rest
	}
	return quotient.plus(natural{1}), rest.minus(m)
}

// odd returns n, which is not 0, without its factors 2.
func (n natural) odd() natural {
	for n[0]&1 == 0 {
		// base is a multiple of 2^width, so that the first element tells of so many factors.
		n = n.shifted(min(bits.TrailingZeros64(n[0]), width))
	}
	return n
}

// shifted returns n over 2^twos.
func (n natural) shifted(twos int) natural {
	shifted := make(natural, len(n))
	rest := uint64(0)
	for i := len(n) - 1; i >= 0; i-- {
		x := rest*base + n[i]
		shifted[i], rest = x>>twos, x&(1<<twos-1)
	}
	return shifted.trimmed()
}

// coprime reports whether n and m, of which m is 2 or more, have no common divisor above 1.
func coprime(n, m natural) bool {
	if len(n) == 0 || n[0]&1 == 0 && m[0]&1 == 0 {
		return false
	}
	n, m = n.odd(), m.odd()
	for n.compare(m) != 0 {
		if n.compare(m) < 0 {
			n, m = m, n
		}
		n = n.minus(m).odd()
	}
	return n.compare(natural{1}) == 0
}
