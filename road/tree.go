package road

import "pritchel/api"

// tree is a valid road, and how deep its places are: how far from the place 0.
type tree struct {
	on, length, deep []int
}

// treeOf returns the tree of a road, and ErrArg unless the road is valid.
func treeOf(r api.Road) (tree, api.Errno) {
	n := len(r.On)
	if n < 1 || n > api.MaxTree || len(r.Length) != n || r.On[0] != 0 || r.Length[0] != 0 {
		return tree{}, api.ErrArg
	}
	deep := make([]int, n)
	for i := 1; i < n; i++ {
		if r.On[i] < 0 || r.On[i] >= i || r.Length[i] < 1 || r.Length[i] > api.MaxRoad {
			return tree{}, api.ErrArg
		}
		deep[i] = deep[r.On[i]] + r.Length[i]
	}
	return tree{r.On, r.Length, deep}, api.OK
}

// treeWith returns the tree of a road, and ErrArg also unless farriers and calls on it are valid.
func treeWith(r api.Road, hands []api.Spot, calls []int) (tree, api.Errno) {
	t, e := treeOf(r)
	if e != api.OK {
		return tree{}, e
	}
	if !t.areHands(hands) || !t.areCalls(calls) {
		return tree{}, api.ErrArg
	}
	return t, api.OK
}

func (t tree) isPlace(p int) bool {
	return p >= 0 && p < len(t.on)
}

func (t tree) isSpot(s api.Spot) bool {
	return t.isPlace(s.Place) && (s.Up == 0 || s.Up > 0 && s.Up < t.length[s.Place])
}

func (t tree) areHands(spots []api.Spot) bool {
	for _, s := range spots {
		if !t.isSpot(s) {
			return false
		}
	}
	return len(spots) >= 1 && len(spots) <= api.MaxHands
}

func (t tree) areCalls(calls []int) bool {
	for _, p := range calls {
		if !t.isPlace(p) {
			return false
		}
	}
	return len(calls) <= api.MaxCalls
}

// meet returns the place where the ways from two places to the place 0 meet.
func (t tree) meet(a, b int) int {
	for a != b {
		// The greater one hangs on a lower one, so that no place between it and the meeting is left out.
		if a > b {
			a = t.on[a]
		} else {
			b = t.on[b]
		}
	}
	return a
}

func (t tree) depth(s api.Spot) int {
	return t.deep[s.Place] - s.Up
}

func (t tree) distance(a, b api.Spot) int {
	// A spot on the way from the meeting place to the place 0 is itself where both ways meet.
	top := min(t.deep[t.meet(a.Place, b.Place)], t.depth(a), t.depth(b))
	return t.depth(a) + t.depth(b) - 2*top
}

// towards returns the spot next to another one, on its way to a place.
func (t tree) towards(s api.Spot, place int) api.Spot {
	if t.meet(s.Place, place) != s.Place {
		return t.above(s)
	}
	if s.Up > 0 {
		return api.Spot{Place: s.Place, Up: s.Up - 1}
	}
	return t.below(s.Place, place)
}

func (t tree) above(s api.Spot) api.Spot {
	if s.Up+1 < t.length[s.Place] {
		return api.Spot{Place: s.Place, Up: s.Up + 1}
	}
	return api.Spot{Place: t.on[s.Place]}
}

// below returns the spot next to a place, on its way to a place that hangs below it.
func (t tree) below(from, place int) api.Spot {
	for t.on[place] != from {
		place = t.on[place]
	}
	return api.Spot{Place: place, Up: t.length[place] - 1}
}
