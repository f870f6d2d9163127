package stock

import "pritchel/api"

// lowest is the lowest level that is looked at.
const lowest = -2 * api.MaxLevel

// costs is what a shop pays.
type costs struct {
	setup, unit, hold, lack uint64
}

// costsOf returns the costs of a shop, and reports whether they are in their range.
func costsOf(s api.Shop) (costs, bool) {
	for _, cost := range []int{s.Setup, s.Unit, s.Hold, s.Lack} {
		if cost < 0 || cost > api.MaxCost {
			return costs{}, false
		}
	}
	return costs{uint64(s.Setup), uint64(s.Unit), uint64(s.Hold), uint64(s.Lack)}, s.Hold+s.Lack > 0
}

// ordering returns what it costs to order from a level up to another one.
func (c costs) ordering(from, to int) uint64 {
	cost := c.unit * uint64(to-from)
	if to > from {
		cost += c.setup
	}
	return cost
}

// keeping returns what a level costs at the end of a period.
func (c costs) keeping(level int) uint64 {
	if level > 0 {
		return c.hold * uint64(level)
	}
	return c.lack * uint64(-level)
}

// shop is a valid shop. What is needed has chances in parts, of which whole are 1.
type shop struct {
	costs
	periods int
	parts   []uint64
	whole   uint64
}

func shopOf(s api.Shop) (shop, api.Errno) {
	for _, x := range s.Need {
		if !isNum(x) {
			return shop{}, api.ErrForm
		}
	}
	c, are := costsOf(s)
	parts, whole, sure := partsOf(s.Need)
	if !are || !sure || s.Periods < 1 || s.Periods > api.MaxPeriods {
		return shop{}, api.ErrArg
	}
	return shop{c, s.Periods, parts, whole}, api.OK
}

func (s shop) hasPeriod(period int) bool {
	return period >= 0 && period < s.periods
}

// meanNeed returns how much is needed in a period, in the mean.
func (s shop) meanNeed() api.Num {
	sum := uint64(0)
	for need, part := range s.parts {
		sum += uint64(need) * part
	}
	return quotient(small(sum), s.whole, 1)
}

// isStock reports whether one may order at that level.
func isStock(level int) bool {
	return level >= -api.MaxLevel && level <= api.MaxLevel
}

func isLevel(level int) bool {
	return level >= lowest && level <= api.MaxLevel
}

func areLevels(levels []api.Level) bool {
	for _, l := range levels {
		if !isLevel(l.Low) || !isLevel(l.High) || l.Low > l.High {
			return false
		}
	}
	return true
}
