package scrub_test

import (
	"bytes"
	"math"
	"slices"
	"testing"

	"hoard/api"
)

// broken makes some blocks on five drives of which two are new ones, and tells of how many cells each block is wrong.
func broken(t *testing.T) (b *bed, cells []int) {
	t.Helper()
	b = lay(t, 5, 40, 300, 1, 700, 200, 1)
	b.r.Replace(1)
	b.r.Replace(4)
	for i, p := range b.l {
		n, _ := b.a.Cost(p.Size)
		k := 0
		for c := p.Addr; c < p.Addr+n; c++ {
			if d := c % 5; d == 1 || d == 4 {
				k++
			}
		}
		if k == 0 || b.whole(t, i) {
			t.Fatal("nothing is wrong of block", i)
		}
		cells = append(cells, k)
	}
	return b, cells
}

// P17.1: wherever the power goes off, the step ends with it: the scrub stands ahead of that block, and goes on from there when the power is back.
func TestDown(t *testing.T) {
	_, cells := broken(t)
	sum := 0
	for _, k := range cells {
		sum += k
	}
	for writes := range sum + 1 {
		for _, n := range []int{1, 2, 9} {
			for _, kept := range []int{0, 1} {
				b, _ := broken(t)
				done := b.armed(t, cells, writes, n, kept)
				if kept == 1 {
					b.allWhole(t)
				}
				again := done * (1 - kept) // so many blocks were mended by writes that are lost
				met(t, b.scrubAll(t), 5, again, 0, drivesOf(again)...)
				b.allWhole(t)
			}
		}
	}
}

// drivesOf are the drives that a scrub of broken's blocks meets, if there are any blocks to meet.
func drivesOf(blocks int) []int {
	if blocks == 0 {
		return nil
	}
	return []int{1, 4}
}

// armed scrubs all, n blocks at a time, with the power that goes off behind some writes, which are kept or lost; it tells how many blocks were done ahead of that.
func (b *bed) armed(t *testing.T, cells []int, writes, n, kept int) int {
	t.Helper()
	done, left := 0, writes
	for done < len(cells) && cells[done] <= left {
		left -= cells[done]
		done++
	}
	c := b.begin(t, b.l)
	b.r.Arm(writes)
	for c.Report().Done+n <= done {
		steps(t, c, n, c.Report().Done+n >= len(cells))
	}
	if done == len(cells) {
		steps(t, c, n, true)
	} else {
		for range 2 { // the second time at once
			fails(t, c, n, api.ErrDown)
			stands(t, c, b.l[done].Addr, done, done, 0, drivesOf(done)...)
		}
		steps(t, c, 0, false)
		stands(t, c, b.l[done].Addr, done, done, 0, drivesOf(done)...)
	}
	if b.r.Pending() != writes {
		t.Fatal(b.r.Pending(), "writes, not", writes)
	}
	b.r.Crash(slices.Repeat([]int{kept}, writes))
	steps(t, c, math.MaxInt, true)
	if o := c.Report(); o.Done != len(cells) || o.Wrong != len(cells) || !slices.Equal(o.Drives, []int{1, 4}) {
		t.Fatal(o)
	}
	return done
}

// P17.1: a scrub of what is whole writes nothing, so that the power doesn't go off by it; without power it goes nowhere.
func TestNoPower(t *testing.T) {
	b := lay(t, 5, 40, 300, 1)
	b.r.Arm(0)
	met(t, b.scrubAll(t), 2, 0, 0)
	b.off()
	was := b.begin(t, b.l).Cursor()
	for _, c := range []string{was, cursor(5, 1, 0, 1), cursor(end, 2, 1, 1)} {
		d := b.resume(t, b.l, c) // is told without power
		next, done, wrong, lost := told(t, d.Cursor())
		if next == end {
			steps(t, d, 9, true)
			continue
		}
		for _, n := range []int{1, 2, math.MaxInt} {
			fails(t, d, n, api.ErrDown)
			stands(t, d, next, done, wrong, lost)
		}
		for _, n := range []int{0, -1, math.MinInt} {
			steps(t, d, n, false)
			stands(t, d, next, done, wrong, lost)
		}
	}
}

// P17.1, P17.3: a step behind the power's end goes on in another scrub too, that is resumed in another store.
func TestDownResumed(t *testing.T) {
	b, cells := broken(t)
	b.r.Arm(cells[0] + cells[1] + 1)
	c := b.begin(t, b.l)
	fails(t, c, 9, api.ErrDown)
	b.r.Crash([]int{1, 1, 1, 1, 1, 1, 1, 1, 1})
	d := b.resume(t, b.l, c.Cursor())
	stands(t, d, b.l[2].Addr, 2, 2, 0)
	steps(t, d, 9, true)
	stands(t, d, end, 5, 5, 0, 1, 4)
	b.allWhole(t)
}

// P17.1: the power that goes off within a block leaves it as its first cells were mended; the drives of a block that isn't done aren't told.
func TestDownWithin(t *testing.T) {
	b := lay(t, 5, 20, 1000) // four rows of five
	b.r.Replace(0)
	b.r.Replace(3)
	b.r.Arm(3)
	c := b.begin(t, b.l)
	fails(t, c, 1, api.ErrDown)
	stands(t, c, 0, 0, 0, 0)
	b.r.Crash([]int{1, 1, 1})
	for i, must := range []bool{true, true, true, true, true, true, true, true, false, true} {
		is, _ := b.cell(i)
		twin, _ := lay(t, 5, 20, 1000).cell(i)
		if bytes.Equal(is, twin) != must {
			t.Error("cell", i)
		}
	}
	steps(t, c, 1, true)
	stands(t, c, end, 1, 1, 0, 0, 3)
}
