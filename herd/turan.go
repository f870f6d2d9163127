package herd

// partSize returns how many of n horses are in one of r parts.
func partSize(n, r, part int) int {
	if part < n%r {
		return n/r + 1
	}
	return n / r
}

// parted returns Turán's herd of n horses in r parts.
func parted(n, r int) herd {
	h := make(herd, n)
	first := 0
	for part := range r {
		end := first + partSize(n, r, part)
		for i := first; i < end; i++ {
			h[i] = h.all() &^ (1<<end - 1<<first)
		}
		first = end
	}
	return h
}
