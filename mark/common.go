package mark

// common returns of the longest strings that s and t have in common the first one.
func common(s, t string) string {
	best := make([][]string, len(s)+1) // best[i][j] is that of s[i:] and t[j:]
	for i := range best {
		best[i] = make([]string, len(t)+1)
	}
	for i := len(s) - 1; i >= 0; i-- {
		for j := len(t) - 1; j >= 0; j-- {
			best[i][j] = better(best[i+1][j], best[i][j+1])
			if s[i] == t[j] {
				best[i][j] = better(best[i][j], joined(s[i:i+1], best[i+1][j+1]))
			}
		}
	}
	return best[0][0]
}

// better returns the longer one of two words, and of two of the same length the first one.
func better(v, w string) string {
	if len(v) != len(w) {
		if len(v) > len(w) {
			return v
		}
		return w
	}
	return min(v, w)
}
