package foot

import "pritchel/api"

// check returns what is wrong with outlines, and with a limit.
func check(limit int, outlines ...[]api.Point) api.Errno {
	for _, o := range outlines {
		if len(o) > api.MaxPoints {
			return api.ErrLong
		}
	}
	for _, o := range outlines {
		if !formed(o) {
			return api.ErrForm
		}
	}
	if limit < 0 {
		return api.ErrArg
	}
	return api.OK
}

func formed(o []api.Point) bool {
	for _, p := range o {
		if !placed(p.X) || !placed(p.Y) {
			return false
		}
	}
	return len(o) > 0
}

func placed(coordinate int) bool {
	return coordinate >= -api.MaxPlace && coordinate <= api.MaxPlace
}

// counts reports whether an outline may have so many points.
func counts(n int) bool {
	return n >= 1 && n <= api.MaxPoints
}

// apart returns the distance of two points.
func apart(p, q api.Point) int {
	x, y := p.X-q.X, p.Y-q.Y
	return x*x + y*y
}

// nearest returns the distance of a point and the point of an outline that is nearest to it.
func nearest(p api.Point, o []api.Point) int {
	least := apart(p, o[0])
	for _, q := range o {
		least = min(least, apart(p, q))
	}
	return least
}

func hausdorff(a, b []api.Point) int {
	greatest := 0
	for _, p := range a {
		greatest = max(greatest, nearest(p, b))
	}
	for _, q := range b {
		greatest = max(greatest, nearest(q, a))
	}
	return greatest
}

// turned returns the outline that begins at point k.
func turned(o []api.Point, k int) []api.Point {
	var t []api.Point
	t = append(t, o[k:]...)
	return append(t, o[:k]...)
}
