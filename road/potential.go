package road

import (
	"slices"

	"pritchel/api"
)

// potential returns that of two lists of the same length.
func (t tree) potential(a, b []api.Spot) int {
	return len(a)*t.paired(a, b) + t.apart(a)
}

// paired returns the least sum of distances with which the spots of a are paired with different ones of b.
func (t tree) paired(a, b []api.Spot) int {
	if len(a) == 0 {
		return 0
	}
	least := beyond
	for i, s := range b {
		rest := slices.Concat(b[:i], b[i+1:])
		least = min(least, t.distance(a[0], s)+t.paired(a[1:], rest))
	}
	return least
}

// apart returns the sum of the distances of all pairs of spots.
func (t tree) apart(spots []api.Spot) int {
	sum := 0
	for i, a := range spots {
		for _, b := range spots[:i] {
			sum += t.distance(a, b)
		}
	}
	return sum
}
