package road

import "pritchel/api"

// beyond is more than the cost of any plan.
const beyond = 1 << 20

// stage is how many calls were served, and at which places the farriers are then.
type stage struct {
	served int
	at     [api.MaxHands]int
}

// plans is the plans for some farriers and calls. The least costs of what is left from a stage on are kept as they become known.
type plans struct {
	tree
	calls []int
	count int
	start stage
	known map[stage]int
}

// plansOf returns the plans, and ErrArg also unless all farriers are at places.
func plansOf(r api.Road, hands []api.Spot, calls []int) (plans, api.Errno) {
	t, e := treeWith(r, hands, calls)
	if e != api.OK {
		return plans{}, e
	}
	p := plans{tree: t, calls: calls, count: len(hands), known: map[stage]int{}}
	for hand, s := range hands {
		if s.Up > 0 {
			return plans{}, api.ErrArg
		}
		p.start.at[hand] = s.Place
	}
	return p, api.OK
}

// fits reports whether a plan names a farrier for each call.
func (p plans) fits(plan []int) bool {
	for _, hand := range plan {
		if hand < 0 || hand >= p.count {
			return false
		}
	}
	return len(plan) == len(p.calls)
}

// way returns how far a farrier is from the next call.
func (p plans) way(s stage, hand int) int {
	return p.distance(api.Spot{Place: s.at[hand]}, api.Spot{Place: p.calls[s.served]})
}

// sent returns the stage after a farrier has served the next call.
func (p plans) sent(s stage, hand int) stage {
	s.at[hand] = p.calls[s.served]
	s.served++
	return s
}

// least returns the least cost of the calls that are left.
func (p plans) least(s stage) int {
	if s.served == len(p.calls) {
		return 0
	}
	if cost, is := p.known[s]; is {
		return cost
	}
	cost := beyond
	for hand := range p.count {
		cost = min(cost, p.leastWith(s, hand))
	}
	p.known[s] = cost
	return cost
}

// leastWith returns the least cost of the calls that are left if a farrier serves the next one.
func (p plans) leastWith(s stage, hand int) int {
	return p.way(s, hand) + p.least(p.sent(s, hand))
}

// plan returns the plan in which always the first farrier goes for whom a price is least.
func (p plans) plan(price func(s stage, hand int) int) []int {
	var plan []int
	s := p.start
	for s.served < len(p.calls) {
		first := 0
		for hand := range p.count {
			if price(s, hand) < price(s, first) {
				first = hand
			}
		}
		plan = append(plan, first)
		s = p.sent(s, first)
	}
	return plan
}

func (p plans) cost(plan []int) int {
	sum := 0
	s := p.start
	for _, hand := range plan {
		sum += p.way(s, hand)
		s = p.sent(s, hand)
	}
	return sum
}
