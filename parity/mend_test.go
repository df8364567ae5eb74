package parity_test

import (
	"bytes"
	"fmt"
	"slices"
	"testing"

	"hoard/api"
	"hoard/parity"
)

// spoilt are the columns with other things in the places of the bad ones: nothing at all, too few bytes, too many.
func spoilt(all [][]byte, bad []int, kind int) [][]byte {
	in := deep(all)
	for n, i := range bad {
		switch (n + kind) % 4 {
		case 0:
			in[i] = nil
		case 1:
			in[i] = bytes.Repeat([]byte{9}, len(in[i]))
		case 2:
			in[i] = make([]byte, 5000)
		case 3:
			in[i] = in[i][1:]
		}
	}
	return in
}

// choices are all rising lists of up to three numbers below n, that of none too.
func choices(n int) [][]int {
	r := [][]int{nil}
	for x := range n {
		r = append(r, []int{x})
		for y := range x {
			r = append(r, []int{y, x})
			for z := range y {
				r = append(r, []int{z, y, x})
			}
		}
	}
	return r
}

// P3.2: whichever up to three columns are bad, of all counts of columns.
func TestRebuild(t *testing.T) {
	for k := 1; k <= 13; k++ {
		all := withParities(k, 4)
		for kind, bad := range choices(k + 3) {
			in := spoilt(all, bad, kind)
			if got, e := parity.Rebuild(in, bad); e != api.OK || !same(got, all) {
				t.Error(k, bad, got, e)
			}
		}
	}
}

// P3.2: columns of the least and greatest lengths.
func TestRebuildLengths(t *testing.T) {
	for _, n := range []int{1, 128, 4095, 4096} {
		for _, k := range []int{1, 2, 13} {
			all := withParities(k, n)
			for kind, bad := range [][]int{{0, 1, 2}, {k - 1, k, k + 1}, {k - 1, k, k + 2}, {k, k + 1, k + 2}, {0}} {
				in := spoilt(all, bad, kind)
				if got, e := parity.Rebuild(in, bad); e != api.OK || !same(got, all) {
					t.Error(n, k, bad, e)
				}
			}
		}
	}
}

// P3.2: the columns that aren't bad are answered as they stand, though they be no parities of one another.
func TestRebuildLeavesTheOthers(t *testing.T) {
	in := columns(9, 6)
	for _, bad := range choices(9) {
		got, e := parity.Rebuild(in, bad)
		if e != api.OK || len(got) != 9 {
			t.Fatal(bad, got, e)
		}
		for i := range in {
			if !slices.Contains(bad, i) && !bytes.Equal(got[i], in[i]) {
				t.Error(bad, i)
			}
		}
		if len(bad) == 3 {
			if ok, e := parity.Check(got); !ok || e != api.OK {
				t.Error(bad, "three bad ones always fit to the others", e)
			}
		}
	}
}

// P3.2: the errors, in their order: what is wrong in two ways answers the first.
func TestRebuildRefuses(t *testing.T) {
	short := columns(5, 5)
	short[4] = short[4][:4]
	long := columns(5, 5)
	long[4] = append(long[4], 1)
	for _, c := range []struct {
		cols [][]byte
		bad  []int
		want api.Errno
	}{
		{nil, nil, api.ErrArg},
		{columns(3, 2), nil, api.ErrArg},
		{columns(3, 2), []int{0}, api.ErrArg},
		{columns(17, 2), nil, api.ErrArg},
		{columns(17, 2), []int{0, 1, 2, 3}, api.ErrArg},
		{columns(4, 2), []int{-1}, api.ErrArg},
		{columns(4, 2), []int{4}, api.ErrArg},
		{columns(4, 2), []int{0, 1 << 62}, api.ErrArg},
		{columns(4, 2), []int{-1 << 63, 0}, api.ErrArg},
		{columns(4, 2), []int{1, 1}, api.ErrArg},
		{columns(4, 2), []int{2, 1}, api.ErrArg},
		{columns(6, 2), []int{0, 1, 2, 3, 3}, api.ErrArg},
		{columns(6, 2), []int{0, 1, 2, 3, 6}, api.ErrArg},
		{columns(6, 2), []int{-1, 0, 1, 2, 3, 4, 5}, api.ErrArg},
		{columns(4, 2), []int{0, 1, 2, 3}, api.ErrArg},
		{columns(16, 2), []int{0, 1, 2, 3, 4, 5, 6, 7, 8, 9, 10, 11, 12, 13, 14, 15}, api.ErrArg},
		{columns(5, 0), []int{0, 1, 2, 3}, api.ErrArg},
		{columns(5, 4097), []int{0, 1, 2, 3}, api.ErrArg},
		{columns(5, 4097), []int{0, 1}, api.ErrArg},
		{short, nil, api.ErrArg},
		{short, []int{0, 1, 2}, api.ErrArg},
		{short, []int{0, 1, 3}, api.ErrArg},
		{short, []int{4}, api.OK},
		{long, []int{0, 1, 2}, api.ErrArg},
		{long, []int{4}, api.OK},
		{short, []int{0, 1, 2, 3}, api.ErrIO},
		{columns(5, 2), []int{0, 1, 2, 3}, api.ErrIO},
		{columns(5, 2), []int{1, 2, 3, 4}, api.ErrIO},
		{columns(16, 2), []int{0, 1, 2, 3}, api.ErrIO},
		{columns(16, 2), []int{0, 1, 2, 3, 4, 5, 6, 7, 8, 9, 10, 11, 12, 13, 14}, api.ErrIO},
		{columns(16, 4096), []int{0, 1, 15}, api.OK},
		{columns(4, 2), []int{0, 1, 3}, api.OK},
	} {
		got, e := parity.Rebuild(c.cols, c.bad)
		if e != c.want || (e == api.OK) != (len(got) > 0) {
			t.Error(fmt.Sprint(len(c.cols), c.bad), len(got), e, "not", c.want)
		}
	}
}

// roomy are columns with spare room behind each, and a check that they are as they were.
func roomy(cols [][]byte) ([][]byte, func() bool) {
	rooms := make([][]byte, len(cols))
	in := make([][]byte, len(cols), len(cols)+5)
	for i, c := range cols {
		rooms[i] = append(slices.Clone(c), bytes.Repeat([]byte{77}, 40)...)
		in[i] = rooms[i][:len(c)]
	}
	was := deep(rooms)
	return in, func() bool {
		for _, c := range in[:cap(in)][len(in):] {
			if c != nil {
				return false
			}
		}
		return same(rooms, was)
	}
}

// P3.3: neither what is handed in nor its spare room is changed.
func TestUnchanged(t *testing.T) {
	for _, k := range []int{1, 4, 13} {
		in, unchanged := roomy(withParities(k, 6))
		bad := append(make([]int, 0, 8), 0, k, k+2)
		parity.Make(in[:k])
		parity.Check(in)
		parity.Rebuild(in, bad)
		parity.Rebuild(in, nil)
		parity.Rebuild(in, []int{0, 1, 2, 3, 9})
		if !unchanged() || !slices.Equal(bad[:8], []int{0, k, k + 2, 0, 0, 0, 0, 0}) {
			t.Error(k)
		}
	}
}

// apart: do no two of these columns share memory, their spare room too?
func apart(cols [][]byte) bool {
	for i := range cols {
		was := deep(cols)
		was[i] = nil
		whole := cols[i][:cap(cols[i])]
		for n := range whole {
			whole[n] ^= 255
		}
		for n := range cols {
			if n != i && !bytes.Equal(cols[n], was[n]) {
				return false
			}
		}
	}
	return true
}

// P3.3: an answer is new memory, and none of its lists share any.
func TestNewMemory(t *testing.T) {
	all := withParities(4, 6)
	for _, bad := range [][]int{nil, {1}, {5, 6}, {0, 3, 4}, {0, 1, 2}, {4, 5, 6}} {
		in, unchanged := roomy(all)
		got, e := parity.Rebuild(in, bad)
		if e != api.OK || !apart(got) || !unchanged() {
			t.Error(bad, e)
		}
		clear(got[:cap(got)])
		if !unchanged() {
			t.Error(bad, "the list")
		}
	}
	in, unchanged := roomy(all[:4])
	if got, e := parity.Make(in); e != api.OK || !apart(got) || !unchanged() {
		t.Error(e)
	}
}
