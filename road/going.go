package road

import (
	"slices"

	"pritchel/api"
)

// going is farriers on their way to a place that calls.
type going struct {
	tree
	hands []api.Spot
	call  int
}

func (g going) isThere() bool {
	return slices.Contains(g.hands, api.Spot{Place: g.call})
}

// left returns how far a farrier has still to go.
func (g going) left(hand int) int {
	return g.distance(g.hands[hand], api.Spot{Place: g.call})
}

// mayGo reports whether a farrier is not held up.
func (g going) mayGo(hand int) bool {
	for other := range g.hands {
		if g.holdsUp(other, hand) {
			return false
		}
	}
	return true
}

func (g going) holdsUp(other, hand int) bool {
	if g.hands[other] == g.hands[hand] {
		return other < hand
	}
	return g.distance(g.hands[hand], g.hands[other])+g.left(other) == g.left(hand)
}

// gone returns the next spots of the farriers that may go, by their numbers.
func (g going) gone(may func(hand int) bool) map[int]api.Spot {
	next := map[int]api.Spot{}
	for hand, s := range g.hands {
		if may(hand) {
			next[hand] = g.towards(s, g.call)
		}
	}
	return next
}

// step returns the farriers after one step, and how many have gone. None of them is at the place that calls.
func (g going) step() ([]api.Spot, int) {
	next := g.gone(g.mayGo)
	hands := slices.Clone(g.hands)
	for hand, s := range next {
		hands[hand] = s
	}
	return hands, len(next)
}

// serve returns the farriers after all calls, and the cost of each call.
func (t tree) serve(hands []api.Spot, calls []int) ([]api.Spot, []int) {
	costs := make([]int, len(calls))
	g := going{tree: t, hands: slices.Clone(hands)}
	for i, call := range calls {
		g.call = call
		for !g.isThere() {
			after, count := g.step()
			g.hands = after
			costs[i] += count
		}
	}
	return g.hands, costs
}
