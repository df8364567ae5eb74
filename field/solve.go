package field

import "hoard/api"

// Solve: the solution of linear equations.
func (f *Field) Solve(rows [][]byte, right []byte) ([]byte, api.Errno) {
	if !square(rows, right) {
		return nil, api.ErrArg
	}
	t := f.ready()
	m := join(rows, right)
	for k := range m {
		p := pivot(m, k)
		if p < 0 {
			return nil, api.ErrMiss
		}
		m[k], m[p] = m[p], m[k]
		t.eliminate(m, k)
	}
	x := make([]byte, len(m))
	for i, row := range m {
		x[i] = row[len(m)]
	}
	return x, api.OK
}

// square: are there as many equations as unknowns, and not too many?
func square(rows [][]byte, right []byte) bool {
	n := len(rows)
	if n < 1 || n > maxUnknowns || len(right) != n {
		return false
	}
	for _, row := range rows {
		if len(row) != n {
			return false
		}
	}
	return true
}

// join is new rows, each with its right side behind its coefficients: what is handed in must stay as it is.
func join(rows [][]byte, right []byte) [][]byte {
	m := make([][]byte, len(rows))
	for i, row := range rows {
		m[i] = make([]byte, len(row)+1)
		copy(m[i], row)
		m[i][len(row)] = right[i]
	}
	return m
}

// pivot is the first row from row k on whose coefficient k isn't 0; -1: none.
func pivot(m [][]byte, k int) int {
	for i := k; i < len(m); i++ {
		if m[i][k] != 0 {
			return i
		}
	}
	return -1
}

// eliminate makes coefficient k of row k 1, and that of all other rows 0. It isn't 0 in row k.
func (f *Field) eliminate(m [][]byte, k int) {
	inverse, _ := f.Inv(m[k][k])
	for c := range m[k] {
		m[k][c] = f.Mul(m[k][c], inverse)
	}
	for i, row := range m {
		if i == k {
			continue
		}
		factor := row[k]
		for c := range row {
			row[c] ^= f.Mul(factor, m[k][c])
		}
	}
}
