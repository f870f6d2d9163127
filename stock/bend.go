package stock

// mostBent is how far from 0 the levels are that are tested for bends.
const mostBent = 12

// bend returns the lexicographically least three levels at which the amounts bend by more than the setup, and reports whether there are any.
func (r *row) bend(setup natural) ([]int, bool) {
	for low := -mostBent; low <= mostBent; low++ {
		for level := low + 1; level <= mostBent; level++ {
			for high := level + 1; high <= mostBent; high++ {
				if r.bends(low, level, high, setup) {
					return []int{low, level, high}, true
				}
			}
		}
	}
	return nil, false
}

// bends compares what the chapter does, times level-low, with no amount subtracted.
func (r *row) bends(low, level, high int, setup natural) bool {
	above, below := uint64(high-level), uint64(level-low)
	ends := r.at(high).plus(setup).times(below).plus(r.at(low).times(above))
	return ends.compare(r.at(level).times(above+below)) < 0
}
