package stock

import "pritchel/api"

// bottom is the level to which lowest may fall.
const bottom = lowest - api.MaxNeed*api.MaxPeriods

// row is an amount for each level from bottom to api.MaxLevel.
type row [api.MaxLevel - bottom + 1]natural

func (r *row) at(level int) natural {
	return r[level-bottom]
}

// least returns the least level from one on that has the least amount.
func (r *row) least(from int) int {
	least := from
	for level := from; level <= api.MaxLevel; level++ {
		if r.at(level).compare(r.at(least)) < 0 {
			least = level
		}
	}
	return least
}

// way is a way to order.
type way struct {
	// upTo returns the level up to which one orders, which is the level itself if one does not.
	upTo func(period, level int) int
}

// plan is what it costs a shop to order in some way. All amounts of a period are in the same parts.
type plan struct {
	shop
	way
	// ones are how many of these parts are 1, in each period and after the last one.
	ones []natural
	// values are those of the levels, and unit times -bottom more, so that none is below 0.
	values []row
	// means are the mean costs from a period on. The last row is that after all periods.
	means []row
}

// bestPlan returns the plan of the least costs.
func (s shop) bestPlan() *plan {
	p := s.newPlan()
	p.upTo = p.best
	p.fill()
	return p
}

// planBy returns the plan of levels for all periods.
func (s shop) planBy(levels []api.Level) *plan {
	p := s.newPlan()
	p.upTo = func(period, level int) int {
		if level < levels[period].Low {
			return levels[period].High
		}
		return level
	}
	p.fill()
	return p
}

func (s shop) newPlan() *plan {
	ones := make([]natural, s.periods+1)
	ones[s.periods] = small(1)
	for period := s.periods - 1; period >= 0; period-- {
		ones[period] = ones[period+1].times(s.whole)
	}
	return &plan{shop: s, ones: ones, values: make([]row, s.periods), means: make([]row, s.periods+1)}
}

// fill goes from the last period to the first one. A level that begins at lowest, or above it, has fallen by at most api.MaxNeed in each period before.
func (p *plan) fill() {
	for period := p.periods - 1; period >= 0; period-- {
		first := lowest - api.MaxNeed*period
		for level := first; level <= api.MaxLevel; level++ {
			p.values[period][level-bottom] = p.raisedValue(period, level)
		}
		// The way may look at the values of all levels of the period.
		for level := first; level <= api.MaxLevel; level++ {
			p.means[period][level-bottom] = p.meanCost(period, level)
		}
	}
}

// amount returns a cost in the parts of a period.
func (p *plan) amount(period int, cost uint64) natural {
	return p.ones[period].times(cost)
}

func (p *plan) raisedValue(period, level int) natural {
	sum := p.amount(period, p.unit*uint64(level-bottom))
	for need, part := range p.parts {
		after := level - need
		cost := p.amount(period+1, p.keeping(after)).plus(p.means[period+1].at(after))
		sum = sum.plus(cost.times(part))
	}
	return sum
}

func (p *plan) meanCost(period, level int) natural {
	to := p.upTo(period, level)
	later := p.values[period].at(to).minus(p.amount(period, p.unit*uint64(to-bottom)))
	return later.plus(p.amount(period, p.ordering(level, to)))
}

// best returns the least level up to which it is best to order.
func (p *plan) best(period, level int) int {
	high := p.values[period].least(level)
	if p.isGood(period, level, high) {
		return level
	}
	return high
}

// isGood reports whether it is as good to be at a level as to order up to another one.
func (p *plan) isGood(period, level, high int) bool {
	values := &p.values[period]
	return values.at(level).compare(values.at(high).plus(p.amount(period, p.setup))) <= 0
}

func (p *plan) levels(period int) api.Level {
	high := p.values[period].least(lowest)
	low := lowest
	for !p.isGood(period, low, high) {
		low++
	}
	return api.Level{Low: low, High: high}
}

func (p *plan) cost(period, level int) api.Num {
	return quotient(p.means[period].at(level), p.whole, p.periods-period)
}

func (p *plan) value(period, level int) api.Num {
	raised, more := p.values[period].at(level), p.amount(period, p.unit*-bottom)
	if raised.compare(more) < 0 {
		return "-" + quotient(more.minus(raised), p.whole, p.periods-period)
	}
	return quotient(raised.minus(more), p.whole, p.periods-period)
}
