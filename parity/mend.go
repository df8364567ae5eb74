package parity

import "hoard/field"

// factor is what parity j (0 P, 1 Q, 2 R) multiplies data column i with: 1, 2 or 4 to the i-th.
func factor(f *field.Field, j, i int) byte {
	x, _ := f.Pow(2, i*j) // no power from 0 on is refused
	return x
}

// addTimes adds c times the bytes of from to those of to.
func addTimes(f *field.Field, to []byte, c byte, from []byte) {
	for n, x := range from {
		to[n] ^= f.Mul(c, x)
	}
}

// addData adds what parity j makes of the data columns to the bytes of to.
func addData(f *field.Field, to []byte, j int, data [][]byte) {
	for i, d := range data {
		addTimes(f, to, factor(f, j, i), d)
	}
}

// sums are the parities of data columns of one length.
func sums(f *field.Field, data [][]byte) [][]byte {
	r := make([][]byte, parities)
	for j := range r {
		r[j] = make([]byte, len(data[0]))
		addData(f, r[j], j, data)
	}
	return r
}

// mend makes the bad ones of all columns, which hold noughts, from the others: the data first, as parities are made from them.
func mend(f *field.Field, all [][]byte, bad []int) {
	k := len(all) - parities
	n := 0
	for n < len(bad) && bad[n] < k {
		n++
	}
	mendData(f, all, bad[:n], sound(bad[n:], k)[:n])
	for _, x := range bad[n:] {
		addData(f, all[x], x-k, all[:k])
	}
}

// sound are the parities that aren't among the bad columns.
func sound(bad []int, k int) []int {
	r := make([]int, 0, parities)
	for j := range parities {
		if len(bad) > 0 && bad[0] == k+j {
			bad = bad[1:]
		} else {
			r = append(r, j)
		}
	}
	return r
}

// mendData makes the lost data columns, which hold noughts, from the other ones and as many parities.
func mendData(f *field.Field, all [][]byte, lost, from []int) {
	k := len(all) - parities
	left := make([][]byte, len(from))
	for y, j := range from {
		// A parity and what the columns that are there make of it: what is left is of the lost ones alone.
		left[y] = append([]byte(nil), all[k+j]...)
		addData(f, left[y], j, all[:k])
	}
	for y := range from {
		for x, c := range shares(f, lost, from, y) {
			addTimes(f, all[lost[x]], c, left[y])
		}
	}
}

// shares are how many times each lost column holds what is left of the y-th parity: worked out once for all bytes.
// There is always just one solution: no lines of the factors hang on one another, whichever up to three are taken.
func shares(f *field.Field, lost, from []int, y int) []byte {
	rows := make([][]byte, len(from))
	for n, j := range from {
		for _, i := range lost {
			rows[n] = append(rows[n], factor(f, j, i))
		}
	}
	right := make([]byte, len(from))
	right[y] = 1
	x, _ := f.Solve(rows, right)
	return x
}
