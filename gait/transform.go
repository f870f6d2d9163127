package gait

// maxValue is how far from 0 a number may be that is transformed.
const maxValue = 1_000_000

func transform(l []int) []int {
	sums := make([]int, len(l))
	for i := range sums {
		for j, x := range l {
			if isOdd(i, j) {
				x = -x
			}
			sums[i] += x
		}
	}
	return sums
}

// signs returns the signs of a row as numbers.
func signs(s string) []int {
	l := make([]int, len(s))
	for i := range l {
		l[i] = 1
		if s[i] == '-' {
			l[i] = -1
		}
	}
	return l
}

func isBent(s string) bool {
	for _, x := range transform(signs(s)) {
		if x*x != len(s) {
			return false
		}
	}
	return true
}
