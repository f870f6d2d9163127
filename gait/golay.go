package gait

import "pritchel/api"

// pair is the signs that two rows have at the same place.
type pair [2]byte

func (p pair) changed() pair {
	return pair{opposite(p[0]), opposite(p[1])}
}

// product returns the sum of the products of the first signs and of the second signs of two pairs.
func (p pair) product(q pair) int {
	if p == q {
		return 2
	}
	if p == q.changed() {
		return -2
	}
	return 0
}

// pairError returns what is wrong with two rows that should have the same length.
func pairError(s, t string) api.Errno {
	if e := rowsError(s, t); e != api.OK {
		return e
	}
	if len(s) != len(t) {
		return api.ErrForm
	}
	return api.OK
}

func isGolay(s, t string) bool {
	// The likenesses of the fewest products come first: they rule out most pairs at once.
	for k := len(s) - 1; k > 0; k-- {
		sum := 0
		for i := range len(s) - k {
			sum += pair{s[i], t[i]}.product(pair{s[i+k], t[i+k]})
		}
		if sum != 0 {
			return false
		}
	}
	return true
}
