package array

import (
	"bytes"
	"slices"

	"hoard/api"
	"hoard/sha"
)

// sumSize: a sum has so many bytes.
const sumSize = 32

// Read: a block with a sum, and the drives that had to be left out.
func (a *Array) Read(addr, size int, sum string) ([]byte, []int, api.Errno) {
	drives, e := a.Drives(addr, size)
	if e != api.OK || len(sum) != sumSize {
		return nil, nil, api.ErrArg
	}
	gone, others := a.gone(drives)
	if len(gone) > api.MaxBad {
		return nil, nil, api.ErrIO
	}
	n, _ := a.Cost(size)
	cells, e := a.load(addr, n)
	if e != api.OK {
		return nil, nil, e
	}
	var b []byte
	var out []int
	fits := func(more []int) bool {
		out = slices.Sorted(slices.Values(slices.Concat(gone, more)))
		b = a.rebuilt(addr, cells, out)[:size]
		return sha.Sum(b) == sum
	}
	for n := range api.MaxBad - len(gone) + 1 {
		if anySet(others, n, nil, fits) {
			return b, out, api.OK
		}
	}
	return nil, nil, api.ErrIO
}

// load is what n cells hold, with nothing for those whose drives are gone.
func (a *Array) load(addr, n int) ([][]byte, api.Errno) {
	cells := make([][]byte, n)
	for i := range cells {
		b, e := a.read(addr + i)
		if e != api.OK && e != api.ErrGone {
			return nil, e
		}
		cells[i] = b
	}
	return cells, api.OK
}

// rebuilt is the data of a block's cells, made again without some drives.
func (a *Array) rebuilt(addr int, cells [][]byte, out []int) []byte {
	var data []byte
	for len(cells) > 0 {
		n := min(a.rack.Drives(), len(cells))
		data = append(data, unlay(cells[:n], func(i int) bool {
			return slices.Contains(out, a.drive(addr+i))
		})...)
		cells = cells[n:]
		addr += n
	}
	return data
}

// anySet: does one of the sets fit that picked and n more, of from on, make? They are tried in the order of their lists.
func anySet(from []int, n int, picked []int, fits func([]int) bool) bool {
	if n == 0 {
		return fits(picked)
	}
	for i, x := range from {
		if anySet(from[i+1:], n-1, append(picked, x), fits) {
			return true
		}
	}
	return false
}

// Repair: what is wrong of a block is written anew; to which drives.
func (a *Array) Repair(addr, size int, sum string) ([]int, api.Errno) {
	b, _, e := a.Read(addr, size, sum)
	if e != api.OK {
		return nil, e
	}
	var to []int
	for i, must := range lay(b, a.width()) {
		cell := addr + i
		// What stands behind the block in its last sector, and the parities, aren't in the sum: all cells are looked at.
		if is, e := a.read(cell); e == api.ErrGone || bytes.Equal(is, must) {
			continue
		}
		if e := a.write(cell, must); e != api.OK {
			return nil, e
		}
		to = append(to, a.drive(cell))
	}
	slices.Sort(to)
	return slices.Compact(to), api.OK
}
