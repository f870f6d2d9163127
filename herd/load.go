package herd

import (
	"slices"
	"strconv"
	"strings"

	"pritchel/api"
)

// maxShort is how many digits the numerator and the denominator of a weight may have.
const maxShort = 12

// load is the weights of a herd, in parts of a whole.
type load struct {
	parts   []natural
	factors []uint64 // their product is how many parts a whole has; each has at most maxShort digits
}

// loadOf reads the weights of n horses, and reports whether they are valid.
func loadOf(n int, weights []api.Num) (load, bool) {
	if len(weights) != n {
		return load{}, false
	}
	l := load{factors: make([]uint64, n)}
	tops := make([]uint64, n)
	for i, w := range weights {
		var ok bool
		tops[i], l.factors[i], ok = weightOf(w)
		if !ok {
			return load{}, false
		}
	}
	for i, top := range tops {
		l.parts = append(l.parts, product(l.factors[:i]).times(product(l.factors[i+1:])).times(small(top)))
	}
	return l, l.sum().compare(product(l.factors)) == 0
}

// weightOf reads a weight, and reports whether it is valid.
func weightOf(w api.Num) (top, bottom uint64, ok bool) {
	numerator, denominator, divided := strings.Cut(string(w), "/")
	top, ok = decimalOf(numerator)
	if !ok || !divided {
		return top, 1, ok
	}
	bottom, ok = decimalOf(denominator)
	return top, bottom, ok && bottom > 1 && divisor(top, bottom) == 1
}

// decimalOf reads a number of at most maxShort digits, and reports whether it is one.
func decimalOf(digits string) (uint64, bool) {
	if len(digits) > maxShort {
		return 0, false
	}
	x, err := strconv.ParseUint(digits, 10, 64)
	// Only digits as they are written here are those of a Num: without leading zeros and signs.
	return x, err == nil && strconv.FormatUint(x, 10) == digits
}

// equal returns equal weights on the horses of a set of 1 or more, and 0 elsewhere.
func equal(n int, s set) load {
	l := load{parts: make([]natural, n), factors: []uint64{uint64(s.size())}}
	for _, i := range s.horses() {
		l.parts[i] = small(1)
	}
	return l
}

func (l load) sum() natural {
	var sum natural
	for _, part := range l.parts {
		sum = sum.plus(part)
	}
	return sum
}

// pull returns the weight that a horse gets along with.
func (l load) pull(h herd, horse int) natural {
	var sum natural
	for _, i := range h[horse].horses() {
		sum = sum.plus(l.parts[i])
	}
	return sum
}

func (l load) worth(h herd) api.Num {
	var sum natural
	for _, p := range h.pairs() {
		sum = sum.plus(l.parts[p.A].times(l.parts[p.B]))
	}
	return quotient(sum, slices.Concat(l.factors, l.factors))
}

// shift shifts the weights as long as can be. One pass is enough: a weight of 0 remains 0, so that two horses that need no shift, or have had one, never need one later.
func (l load) shift(h herd) {
	for i := range h {
		for j := i + 1; j < len(h); j++ {
			if !h[i].has(j) && !l.parts[i].isZero() && !l.parts[j].isZero() {
				l.unite(h, i, j)
			}
		}
	}
}

// unite gives the weight of two horses to the one that pulls more, or to the first one.
func (l load) unite(h herd, i, j int) {
	if l.pull(h, i).compare(l.pull(h, j)) < 0 {
		i, j = j, i
	}
	l.parts[i] = l.parts[i].plus(l.parts[j])
	l.parts[j] = nil
}

func (l load) nums() []api.Num {
	var list []api.Num
	for _, part := range l.parts {
		list = append(list, quotient(part, l.factors))
	}
	return list
}
