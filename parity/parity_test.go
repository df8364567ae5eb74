package parity_test

import (
	"bytes"
	"math/rand"
	"slices"
	"testing"

	"hoard/api"
	"hoard/parity"
)

// twice is x times a, as polynomials.
func twice(a byte) byte {
	if a >= 128 {
		return a<<1 ^ 29
	}
	return a << 1
}

// slow are the parities, by Horner's rule: no powers of 2, only twice again and again.
func slow(data [][]byte) [][]byte {
	r := make([][]byte, 3)
	for j := range r {
		r[j] = make([]byte, len(data[0]))
		for n := range r[j] {
			var x byte
			for _, d := range slices.Backward(data) {
				for range j {
					x = twice(x)
				}
				x ^= d[n]
			}
			r[j][n] = x
		}
	}
	return r
}

// columns are k columns of n bytes, always the same ones.
func columns(k, n int) [][]byte {
	random := rand.New(rand.NewSource(int64(k*10000 + n)))
	r := make([][]byte, k)
	for i := range r {
		r[i] = make([]byte, n)
		random.Read(r[i])
	}
	return r
}

// withParities are k data columns of n bytes, and their parities.
func withParities(k, n int) [][]byte {
	data := columns(k, n)
	return append(data, slow(data)...)
}

// same holds two lists of columns against one another.
func same(a, b [][]byte) bool { return slices.EqualFunc(a, b, bytes.Equal) }

// deep is a copy that shares nothing.
func deep(cols [][]byte) [][]byte {
	r := make([][]byte, len(cols))
	for i, c := range cols {
		r[i] = slices.Clone(c)
	}
	return r
}

// P3.1, P3.2: the chapter's example.
func TestExample(t *testing.T) {
	if p, e := parity.Make([][]byte{{1}, {1}}); e != api.OK || !same(p, [][]byte{{0}, {3}, {5}}) {
		t.Error(p, e)
	}
	in := [][]byte{{1}, {0}, {0}, {3}, {5}}
	if c, e := parity.Rebuild(in, []int{1}); e != api.OK || !same(c, [][]byte{{1}, {1}, {0}, {3}, {5}}) {
		t.Error(c, e)
	}
	if c, e := parity.Rebuild(in, []int{0, 1, 2, 3}); len(c) != 0 || e != api.ErrIO {
		t.Error(c, e)
	}
	if c, e := parity.Rebuild(in, []int{1, 1}); len(c) != 0 || e != api.ErrArg {
		t.Error(c, e)
	}
	if c, e := parity.Make(nil); len(c) != 0 || e != api.ErrArg {
		t.Error(c, e)
	}
}

// P3.1: all counts of columns, and lengths from the least to the greatest.
func TestMake(t *testing.T) {
	for k := 1; k <= 13; k++ {
		for _, n := range []int{1, 2, 3, 128, 1000, 4096} {
			data := columns(k, n)
			if p, e := parity.Make(data); e != api.OK || !same(p, slow(data)) {
				t.Error(k, n, e)
			}
		}
	}
}

// P3.1: each byte of each column alone, as its multiples are all that a sum is made of.
func TestMakeOfOne(t *testing.T) {
	for i := range 13 {
		for x := range 256 {
			data := make([][]byte, 13)
			for c := range data {
				data[c] = []byte{0}
			}
			data[i][0] = byte(x)
			if p, e := parity.Make(data); e != api.OK || !same(p, slow(data)) {
				t.Error(i, x, p, e)
			}
		}
	}
}

// uneven are columns that no call takes, whatever else is right: k of them.
func uneven(k int) map[string][][]byte {
	long, last, first, more, none := columns(k, 4097), columns(k, 5), columns(k, 5), columns(k, 5), columns(k, 5)
	last[k-1] = last[k-1][:4]
	first[0] = append(first[0], 1)
	more[k-1] = append(more[k-1], 1)
	none[k-1] = nil
	return map[string][][]byte{
		"nil": nil, "no columns": {}, "nil columns": make([][]byte, k), "empty columns": columns(k, 0),
		"too long": long, "last": last, "first": first, "more": more, "none": none,
	}
}

// P3.1: what are no columns.
func TestMakeRefuses(t *testing.T) {
	for _, k := range []int{2, 5, 13} {
		for name, cols := range uneven(k) {
			if p, e := parity.Make(cols); len(p) != 0 || e != api.ErrArg {
				t.Error(k, name, len(p), e)
			}
		}
	}
	for _, k := range []int{14, 15, 16, 17, 300} {
		if p, e := parity.Make(columns(k, 2)); len(p) != 0 || e != api.ErrArg {
			t.Error(k, len(p), e)
		}
	}
	for _, n := range []int{0, 4097, 100000} {
		if p, e := parity.Make(columns(1, n)); len(p) != 0 || e != api.ErrArg {
			t.Error(n, len(p), e)
		}
	}
}

// P3.1: parities are checked, of all counts of columns; one other bit is found.
func TestCheck(t *testing.T) {
	for k := 1; k <= 13; k++ {
		all := withParities(k, 3)
		if ok, e := parity.Check(all); !ok || e != api.OK {
			t.Error(k, ok, e)
		}
		for i := range all {
			for n := range all[i] {
				all[i][n] ^= 1 << (i % 8)
				if ok, e := parity.Check(all); ok || e != api.OK {
					t.Error(k, i, n, ok, e)
				}
				all[i][n] ^= 1 << (i % 8)
			}
		}
	}
	if ok, e := parity.Check(withParities(13, 4096)); !ok || e != api.OK {
		t.Error(ok, e)
	}
}

// P3.1: what Check refuses.
func TestCheckRefuses(t *testing.T) {
	for _, k := range []int{4, 5, 16} {
		for name, cols := range uneven(k) {
			if ok, e := parity.Check(cols); ok || e != api.ErrArg {
				t.Error(k, name, ok, e)
			}
		}
	}
	for _, k := range []int{1, 2, 3, 17, 18, 300} {
		if ok, e := parity.Check(columns(k, 2)); ok || e != api.ErrArg {
			t.Error(k, ok, e)
		}
	}
	if ok, e := parity.Check(append(columns(11, 2), slow(columns(11, 2))...)); !ok || e != api.OK {
		t.Error(ok, e)
	}
}
