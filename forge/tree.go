package forge

import (
	"slices"

	"pritchel/api"
)

// isTree reports whether each smith, but the first one, lives beside one with a lower number.
func isTree(on []int) bool {
	if len(on) < 1 || len(on) > api.MaxSmiths || on[0] != 0 {
		return false
	}
	for i := 1; i < len(on); i++ {
		if on[i] < 0 || on[i] >= i {
			return false
		}
	}
	return true
}

// waysTo returns the ways of all smiths towards one of them.
func waysTo(holder int, on []int) []int {
	// All ways lead to the smith 0, but for those between it and the holder.
	ways := slices.Clone(on)
	ways[holder] = holder
	for i := holder; i > 0; i = on[i] {
		ways[on[i]] = i
	}
	return ways
}

func (v *Village) has(smith int) bool {
	return smith >= 0 && smith < len(v.smiths)
}

func (v *Village) areNeighbours(a, b int) bool {
	return v.has(a) && v.has(b) && a != b && (v.on[a] == b || v.on[b] == a)
}
