package heap

// matrix is a square matrix: a part of a Laplacian, or one with a column of heaps. A minor of a Laplacian is at most the number of ways to choose as many edges (Cauchy and Binet), below 80000 for 7 of 20; with a column of 7 heaps of 1000 bars it is below 2^30, and so a product of two minors is below 2^60.
type matrix [][]int64

func (m matrix) clone() matrix {
	c := make(matrix, len(m))
	for i := range m {
		c[i] = make([]int64, len(m[i]))
		copy(c[i], m[i])
	}
	return c
}

// replaced returns the matrix with heaps as one of its columns.
func (m matrix) replaced(column int, heaps []int) matrix {
	r := m.clone()
	for i := range r {
		r[i][column] = int64(heaps[i])
	}
	return r
}

// determinant returns the determinant without its sign. It eliminates by Bareiss's rule, in which every division is exact and every number is a minor.
func (m matrix) determinant() int64 {
	m = m.clone()
	last := int64(1)
	for k := range m {
		p := m.pivot(k)
		if p < 0 {
			return 0
		}
		m[p], m[k] = m[k], m[p]
		m.eliminate(k, last)
		last = m[k][k]
	}
	return max(last, -last)
}

// pivot returns the first row from k on with a number other than 0 in the column k, or -1.
func (m matrix) pivot(k int) int {
	for i := k; i < len(m); i++ {
		if m[i][k] != 0 {
			return i
		}
	}
	return -1
}

func (m matrix) eliminate(k int, last int64) {
	for i := k + 1; i < len(m); i++ {
		for j := k + 1; j < len(m); j++ {
			m[i][j] = (m[i][j]*m[k][k] - m[i][k]*m[k][j]) / last
		}
	}
}

// divisors returns for each k, from 0 on, the greatest common divisor of all minors of k rows and k columns: the product of the first k invariant factors.
func (m matrix) divisors() []int64 {
	divisors := make([]int64, len(m)+1)
	sets := subsets(len(m))
	for _, rows := range sets {
		for _, columns := range sets {
			if k := len(rows); k == len(columns) {
				divisors[k] = gcd(divisors[k], m.part(rows, columns).determinant())
			}
		}
	}
	return divisors
}

// subsets returns all rising lists of numbers below n.
func subsets(n int) [][]int {
	sets := make([][]int, 1<<n)
	for s := range sets {
		for i := range n {
			if s>>i&1 == 1 {
				sets[s] = append(sets[s], i)
			}
		}
	}
	return sets
}

func (m matrix) part(rows, columns []int) matrix {
	p := make(matrix, len(rows))
	for i, r := range rows {
		for _, c := range columns {
			p[i] = append(p[i], m[r][c])
		}
	}
	return p
}

func gcd(a, b int64) int64 {
	for b != 0 {
		a, b = b, a%b
	}
	return a
}
