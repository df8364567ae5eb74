package array

import (
	"slices"

	"hoard/api"
	"hoard/parity"
)

// parities: so many cells of each row are its P, Q and R, ahead of its data.
const parities = 3

// parts are how many pieces of up to n are made of some.
func parts(some, n int) int { return (some + n - 1) / n }

// width is how many data sectors a full row has.
func (a *Array) width() int { return a.rack.Drives() - parities }

// sectors are a block's bytes in sectors, the last one with noughts behind.
func sectors(b []byte) [][]byte {
	r := make([][]byte, parts(len(b), api.Sector))
	for i := range r {
		r[i] = make([]byte, api.Sector)
		copy(r[i], b[i*api.Sector:])
	}
	return r
}

// lay is what the cells of a block must hold, in their order.
func lay(b []byte, width int) [][]byte {
	var cells [][]byte
	for data := sectors(b); len(data) > 0; {
		n := min(width, len(data))
		row, _ := parity.Make(data[:n]) // a row is never refused: it has 1 to 13 sectors
		cells = append(cells, row...)
		cells = append(cells, data[:n]...)
		data = data[n:]
	}
	return cells
}

// unlay is the data of a row's cells, made again without the bad ones among them.
func unlay(row [][]byte, bad func(i int) bool) []byte {
	cols := slices.Concat(row[parities:], row[:parities]) // layer 3 has the data ahead of the parities
	var places []int
	for i := range cols {
		if bad((i + parities) % len(row)) {
			places = append(places, i)
		}
	}
	cols, _ = parity.Rebuild(cols, places) // nor is this refused, of up to three drives: each has one cell of a row
	return slices.Concat(cols[:len(row)-parities]...)
}
