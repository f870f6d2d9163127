package foot

import "pritchel/api"

// short returns the first short form with the fewest indices.
func short(a []api.Point, limit int) []int {
	few := fewest(a, limit)
	form := []int{0}
	for j := range a {
		i := form[len(form)-1]
		if few[j] < few[i] && skips(a, i, j, limit) {
			form = append(form, j)
		}
	}
	return form
}

// fewest returns, for each point, how few indices come after it in a short form of the points from it on.
func fewest(a []api.Point, limit int) []int {
	few := make([]int, len(a))
	for i := len(a) - 2; i >= 0; i-- {
		few[i] = 1 + few[i+1]
		for j := i + 1; j < len(a); j++ {
			if skips(a, i, j, limit) {
				few[i] = min(few[i], 1+few[j])
			}
		}
	}
	return few
}

// skips reports whether j may follow i in a short form: each point between them goes with i, or it and all points after it go with j.
func skips(a []api.Point, i, j, limit int) bool {
	k := i
	for k+1 < j && apart(a[k+1], a[i]) <= limit {
		k++
	}
	for _, p := range a[k+1 : j] {
		if apart(p, a[j]) > limit {
			return false
		}
	}
	return true
}
