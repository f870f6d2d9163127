package mark

import "math/bits"

// count is a number below 2^256, 64 bits an element, the last ones first: no code has as many as 2^200 words.
type count [4]uint64

func (c count) plus(d count) count {
	carry := uint64(0)
	for i := range c {
		c[i], carry = bits.Add64(c[i], d[i], carry)
	}
	return c
}

func (c count) text() string {
	last := uint64(0)
	for i := len(c) - 1; i >= 0; i-- {
		c[i], last = bits.Div64(last, c[i], 10)
	}
	digit := string(rune('0' + last))
	if c == (count{}) {
		return digit
	}
	return joined(c.text(), digit)
}

// size returns how many words of n letters have a sum that leaves a.
func size(n, a int) count {
	sums := make([]count, n+1) // how many words of the letters so far have a sum that leaves so much
	sums[0] = count{1}
	for i := 1; i <= n; i++ {
		next := make([]count, n+1)
		for sum := range next {
			next[sum] = sums[sum].plus(sums[(sum+n+1-i)%(n+1)])
		}
		sums = next
	}
	return sums[a]
}
