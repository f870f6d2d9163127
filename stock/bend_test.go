package stock

import (
	"slices"
	"testing"

	"pritchel/api"
)

// No shop has values that bend too much, so that this is tested on amounts of no shop.

// rowOf returns amounts that are given by a function.
func rowOf(f func(level int) int) *row {
	r := &row{}
	for level := bottom; level <= api.MaxLevel; level++ {
		r[level-bottom] = small(uint64(f(level)))
	}
	return r
}

// bent returns all triples at which amounts bend too much, by the chapter's formula times y - low.
func bent(f func(level int) int, setup int) [][]int {
	var all [][]int
	for low := -12; low <= 12; low++ {
		for y := -12; y <= 12; y++ {
			for high := -12; high <= 12; high++ {
				if low < y && y < high && (f(high)+setup-f(y))*(y-low) < (high-y)*(f(y)-f(low)) {
					all = append(all, []int{low, y, high})
				}
			}
		}
	}
	return all
}

func TestBend(t *testing.T) {
	peak := func(at, height int) func(level int) int {
		return func(level int) int {
			if level == at {
				return height
			}
			return 0
		}
	}
	functions := []func(level int) int{
		func(level int) int { return 0 },
		func(level int) int { return level * level },
		func(level int) int { return 6000 - level*level },
		func(level int) int { return 100 + level },
		func(level int) int { return 200 - level*level%7 },
		func(level int) int { return (level + 100) * 37 % 11 },
		func(level int) int { return max(level, 0) },
		func(level int) int { return 100 - max(level, 0) },
		peak(0, 9), peak(-12, 9), peak(12, 9), peak(-11, 9), peak(11, 9), peak(-13, 9), peak(13, 9), peak(5, 200),
	}
	none := 0
	for i, f := range functions {
		for _, setup := range []int{0, 1, 4, 8, 9, 10, 17, 18, 100} {
			all := bent(f, setup)
			bend, is := rowOf(f).bend(small(uint64(setup)))
			if is != (len(all) > 0) || is && !slices.Equal(bend, all[0]) || !is && len(bend) > 0 {
				t.Errorf("function %d, setup %d: %v, %t", i, setup, bend, is)
			}
			if !is {
				none++
			}
		}
	}
	if none < 20 {
		t.Errorf("only %d do not bend", none)
	}
}
