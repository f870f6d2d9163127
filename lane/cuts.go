package lane

import (
	"slices"

	"pritchel/api"
)

func (c country) isProof(ends []int, cuts []api.Cut) bool {
	if len(cuts) > api.MaxCuts {
		return false
	}
	for _, cut := range cuts {
		if !parted(cut, ends) || cut.Weight < 1 || cut.Weight > api.MaxHalves {
			return false
		}
	}
	for _, l := range c.lanes {
		if load(cuts, l) > 2*l.Length {
			return false
		}
	}
	return true
}

// parted reports whether a cut has some of these places in it, but not all.
func parted(cut api.Cut, places []int) bool {
	inside := 0
	for _, p := range places {
		if slices.Contains(cut.Places, p) {
			inside++
		}
	}
	return inside > 0 && inside < len(places)
}

// load returns the weight of the cuts that have just one of the places of a lane in them.
func load(cuts []api.Cut, l api.Lane) int {
	sum := 0
	for _, cut := range cuts {
		if parted(cut, []int{l.A, l.B}) {
			sum += cut.Weight
		}
	}
	return sum
}

func worth(cuts []api.Cut) int {
	sum := 0
	for _, cut := range cuts {
		sum += cut.Weight
	}
	return sum
}

// moats returns the cuts of the parts that grow around the ends.
func (c country) moats(ends []int) []api.Cut {
	var cuts []api.Cut
	p := partsOf(len(c.far))
	for !p.hold(ends) {
		for place := range p {
			if p[place] == place && p.reaches(place, ends) {
				cuts = grown(cuts, p.of(place))
			}
		}
		for _, l := range c.lanes {
			// Where parts grow towards each other, 2 more are never too much: either part has reached its place after an even number of steps, so that what the lane bears is even.
			if load(cuts, l) >= 2*l.Length {
				p.join(l.A, l.B)
			}
		}
	}
	return cuts
}

// grown returns the cuts when that of a part weighs 1 more.
func grown(cuts []api.Cut, part []int) []api.Cut {
	for i := range cuts {
		if slices.Equal(cuts[i].Places, part) {
			cuts[i].Weight++
			return cuts
		}
	}
	return append(cuts, api.Cut{Places: part, Weight: 1})
}
