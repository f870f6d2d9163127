package gait

import "pritchel/api"

// maxPower is the k of the greatest matrix of Sylvester's.
const maxPower = 5

// matrixError returns what is wrong with a matrix.
func matrixError(m []string) api.Errno {
	if len(m) > api.MaxOrder {
		return api.ErrLong
	}
	if len(m) == 0 {
		return api.ErrForm
	}
	if e := rowsError(m...); e != api.OK {
		return e
	}
	for _, s := range m {
		if len(s) != len(m) {
			return api.ErrForm
		}
	}
	return api.OK
}

// legendre returns the row of an odd prime.
func legendre(p int) string {
	isSquare := make([]bool, p)
	for j := range p {
		isSquare[j*j%p] = true
	}
	return rowOf(p, func(i int) bool { return !isSquare[i] })
}

func sylvester(k int) []string {
	m := make([]string, 1<<k)
	for i := range m {
		m[i] = rowOf(len(m), func(j int) bool { return isOdd(i, j) })
	}
	return m
}

func paley(p int) []string {
	s := legendre(p)
	m := []string{rowOf(p+1, func(int) bool { return false })}
	for i := range p {
		// The row turned by i has its sign 0, which is '+', where the number of the row is that of the column.
		m = append(m, "-"+s[p-i:]+s[:p-i])
	}
	return m
}

func isRight(m []string) bool {
	for i := range m {
		for j := range i {
			if likeness(m[i], m[j]) != 0 {
				return false
			}
		}
	}
	return true
}

func normal(m []string) []string {
	plain := make([]string, len(m))
	for i, s := range m {
		plain[i] = product(s, m[0])
		if plain[i][0] == '-' {
			plain[i] = changed(plain[i])
		}
	}
	return plain
}
