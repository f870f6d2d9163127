package turn

import (
	"math/bits"
	"strings"

	"pritchel/api"
)

// fraction is a rational number in lowest terms, or 1/0 or -1/0, which are beyond all others.
type fraction struct {
	minus       bool
	top, bottom natural
}

// maxShort is how many digits there may be where they are limited.
const maxShort = 20

// dyadic returns a number of parts, of which a whole has a power of 2.
func dyadic(top, parts int64) fraction {
	twos := min(bits.TrailingZeros64(uint64(top)), bits.TrailingZeros64(uint64(parts)))
	return fraction{minus: top < 0, top: small(max(top, -top) >> twos), bottom: small(parts >> twos)}
}

// fractionOf reads a Num, and reports whether it is valid.
func fractionOf(x api.Num) (fraction, bool) {
	text, minus := strings.CutPrefix(string(x), "-")
	top, bottom, divided := strings.Cut(text, "/")
	if !divided {
		bottom = "1"
	}
	if !decimal(top) || !decimal(bottom) || minus && top == "0" {
		return fraction{}, false
	}
	f := fraction{minus: minus, top: naturalOf(top), bottom: naturalOf(bottom)}
	if divided && (bottom == "0" || bottom == "1" || !coprime(f.top, f.bottom)) {
		return fraction{}, false
	}
	return f, true
}

// boundOf reads a bound: an empty string is beyond all numbers.
func boundOf(x api.Num, minus bool) (fraction, bool) {
	if x == "" {
		return fraction{minus: minus, top: natural{1}}, true
	}
	return fractionOf(x)
}

// decimal reports whether these are digits as in a Num.
func decimal(s string) bool {
	if s == "" || len(s) > api.MaxDigits || s[0] == '0' && s != "0" {
		return false
	}
	for i := range len(s) {
		if s[i] < '0' || s[i] > '9' {
			return false
		}
	}
	return true
}

func (f fraction) num() api.Num {
	s := f.top.text()
	if f.minus {
		s = "-" + s
	}
	if bottom := f.bottom.text(); bottom != "1" {
		s += "/" + bottom
	}
	return api.Num(s)
}

func (f fraction) short() bool {
	return len(f.top.text()) <= maxShort && len(f.bottom.text()) <= maxShort
}

func (f fraction) isDyadic() bool {
	return f.bottom.odd().compare(natural{1}) == 0
}

func (f fraction) opposite() fraction {
	return fraction{minus: !f.minus && len(f.top) > 0, top: f.top, bottom: f.bottom}
}

func (f fraction) less(g fraction) bool {
	if f.minus != g.minus {
		return f.minus
	}
	order := f.top.times(g.bottom).compare(g.top.times(f.bottom))
	if f.minus {
		return order > 0
	}
	return order < 0
}
