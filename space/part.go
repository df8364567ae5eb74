package space

import (
	"slices"
	"sort"
)

// part is some of the cells, as the fewest ranges, rising.
type part struct {
	ranges []Range
	count  int // of its cells
}

// size is how many cells a range has.
func (r Range) size() int { return r.To - r.From }

// ending is the place of the first range that ends at a cell or behind it.
func (p part) ending(to int) int {
	return sort.Search(len(p.ranges), func(i int) bool { return p.ranges[i].To >= to })
}

// has: are all cells of a range in it? As no two of its ranges touch, one of them must have them all.
func (p part) has(r Range) bool {
	i := p.ending(r.To)
	return i < len(p.ranges) && p.ranges[i].From <= r.From
}

// with is the part and a range of which it had no cell. (As behind append, the old part is of no use any more.)
func (p part) with(r Range) part {
	p.count += r.size()
	i := p.ending(r.From)
	j := i
	if j < len(p.ranges) && p.ranges[j].To == r.From {
		r.From = p.ranges[j].From
		j++
	}
	if j < len(p.ranges) && p.ranges[j].From == r.To {
		r.To = p.ranges[j].To
		j++
	}
	p.ranges = slices.Replace(p.ranges, i, j, r)
	return p
}

// without is the part less a range of which it had all cells. (Nor is the old one of use behind this.)
func (p part) without(r Range) part {
	p.count -= r.size()
	i := p.ending(r.To)
	whole := p.ranges[i]
	var rest []Range
	for _, x := range []Range{{whole.From, r.From}, {r.To, whole.To}} {
		if x.size() > 0 {
			rest = append(rest, x)
		}
	}
	p.ranges = slices.Replace(p.ranges, i, i+1, rest...)
	return p
}

// row is the least cell from which n cells in a row are in it.
func (p part) row(n int) (int, bool) {
	for _, r := range p.ranges {
		if r.size() >= n {
			return r.From, true
		}
	}
	return 0, false
}

// copy is a part that shares nothing with this one.
func (p part) copy() part {
	p.ranges = slices.Clone(p.ranges)
	return p
}
