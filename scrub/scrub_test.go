package scrub_test

import (
	"math"
	"slices"
	"testing"

	"hoard/api"
	"hoard/scrub"
	"hoard/sha"
	"hoard/store"
)

// P17.1: the chapter's example, with any of the drives on which both blocks lie.
func TestExample(t *testing.T) {
	for d := range 5 {
		b := lay(t, 5, 20, 200, 300) // on 5 cells, and on 9: both lie on all drives
		b.r.Replace(d)
		c := b.begin(t, b.l)
		steps(t, c, 1, false)
		cursor := c.Cursor()
		stands(t, c, 5, 1, 1, 0, d)
		steps(t, c, 1, true)
		stands(t, c, end, 2, 2, 0, d)
		c = b.begin(t, b.l)
		steps(t, c, 2, true)
		stands(t, c, end, 2, 0, 0)
		c = b.resume(t, b.l, cursor)
		stands(t, c, 5, 1, 1, 0)
		steps(t, c, 9, true)
		stands(t, c, end, 2, 1, 0)
	}
}

// P17.1: a new scrub stands ahead of all, whatever comes first in the list; of no blocks nothing is left.
func TestNew(t *testing.T) {
	b := lay(t, 5, 20, 1, 1, 1)
	for _, l := range orders(b.l) {
		stands(t, b.begin(t, l), 0, 0, 0, 0)
	}
	stands(t, b.begin(t, b.l[1:]), 4, 0, 0, 0)
	for _, l := range [][]api.Ptr{nil, {}} {
		c := b.begin(t, l)
		for _, n := range wild {
			stands(t, c, end, 0, 0, 0)
			steps(t, c, n, true)
		}
	}
	if s := b.begin(t, nil).Cursor(); s != "\x01\x80\x80\x80\x80\x80\x80\x80\x80\x20\x01\x00\x01\x00\x01\x00" {
		t.Errorf("%x", s)
	}
}

// P17.1: without a store there is no scrub; that is looked for ahead of the cursor's form.
func TestNoStore(t *testing.T) {
	b := lay(t, 5, 20, 1)
	for _, l := range [][]api.Ptr{nil, b.l} {
		if c, e := scrub.New(nil, l); c != nil || e != api.ErrArg {
			t.Error(c, e)
		}
		for _, s := range []string{"", "x", cursor(0, 0, 0, 0), cursor(end, 1, 0, 0)} {
			if c, e := scrub.Resume(nil, l, s); c != nil || e != api.ErrArg {
				t.Error(c, e)
			}
		}
	}
}

// P1, P17.1: what a nil scrub answers, and one that New didn't make; a store that its New didn't make has no blocks.
func TestNil(t *testing.T) {
	for _, c := range []*scrub.Scrub{nil, {}} {
		for _, n := range wild {
			fails(t, c, n, api.ErrArg)
		}
		if s := c.Cursor(); s != "" {
			t.Errorf("%x", s)
		}
		met(t, c.Report(), 0, 0, 0)
	}
	b := lay(t, 5, 20, 1, 1)
	b.Store = &store.Store{}
	c := b.begin(t, b.l)
	steps(t, c, 1, false)
	stands(t, c, 4, 1, 0, 0)
	steps(t, c, 1, true)
	stands(t, c, end, 2, 0, 0)
}

// P17.1: Step takes the next n blocks, of n below 1 none, and as many as are left.
func TestSteps(t *testing.T) {
	b := lay(t, 5, 40, 1, 1, 1, 1, 1, 1, 1)
	c := b.begin(t, b.l)
	for _, s := range []struct{ n, done int }{{0, 0}, {-1, 0}, {math.MinInt, 0}, {1, 1}, {0, 1}, {3, 4}, {-3, 4}, {2, 6}} {
		steps(t, c, s.n, false)
		stands(t, c, s.done*4, s.done, 0, 0)
	}
	for _, n := range []int{1, 1, 0, -1, math.MaxInt, math.MinInt} {
		steps(t, c, n, true)
		stands(t, c, end, 7, 0, 0)
	}
	for n, all := range map[int]bool{6: false, 7: true, 8: true, math.MaxInt: true} {
		c := b.begin(t, b.l)
		steps(t, c, n, all)
		if done := min(n, 7); c.Report().Done != done {
			t.Error(n, c.Report())
		}
	}
	if b.r.Pending() != 0 {
		t.Error("something was written")
	}
}

// P17.1: each block is healed by its own step, and no other.
func TestHeals(t *testing.T) {
	b := lay(t, 5, 40, 200, 500, 1, 700, 128)
	b.r.Replace(0)
	b.rot(3)
	c := b.begin(t, []api.Ptr{b.l[4], b.l[1], b.l[0], b.l[3], b.l[2]})
	for i := range b.l {
		for k := range b.l {
			if b.whole(t, k) != (k < i) {
				t.Fatal(i, k)
			}
		}
		steps(t, c, 1, i == 4)
	}
	b.allWhole(t)
	stands(t, c, end, 5, 5, 0, 0, 3)
	met(t, b.scrubAll(t), 5, 0, 0)
}

// P17.1: Drives are those that were written to: rising, each once; those that are gone aren't among them, nor those that are left out unharmed.
func TestDrives(t *testing.T) {
	b := lay(t, 6, 40, 300, 300, 300) // on six cells each
	b.r.Rot(4, 4, 0)
	b.r.Rot(2, 3, 1)
	b.r.Rot(5, 3, 2)
	b.r.Rot(4, 2, 3)
	b.r.Lose(1)
	c := b.begin(t, b.l)
	steps(t, c, 1, false)
	stands(t, c, 6, 1, 1, 0, 4)
	steps(t, c, 1, false)
	stands(t, c, 12, 2, 2, 0, 2, 4, 5)
	steps(t, c, 1, true)
	stands(t, c, end, 3, 3, 0, 2, 4, 5)
	met(t, b.scrubAll(t), 3, 0, 0) // though a drive is gone
	b.r.Replace(1)
	met(t, b.scrubAll(t), 3, 3, 0, 1)
	b.allWhole(t)
}

// P17.1: what rotted of a parity, or behind the block's end, is wrong too.
func TestUnsummed(t *testing.T) {
	for d := range 4 {
		b := lay(t, 5, 20, 1) // P, Q, R and the byte, with noughts behind
		b.r.Rot(d, 2, 127)
		met(t, b.scrubAll(t), 1, 1, 0, d)
		b.allWhole(t)
		met(t, b.scrubAll(t), 1, 0, 0)
	}
}

// P17.1: blocks that more than three drives failed of are lost, are left as they are, and keep nothing back.
func TestLost(t *testing.T) {
	b := lay(t, 8, 30, 300, 1, 700)
	for _, d := range []int{2, 3, 4, 5} { // the second block lies on 6, 7, 0, 1
		b.r.Replace(d)
	}
	was := b.all()
	c := b.begin(t, b.l)
	steps(t, c, 1, false)
	stands(t, c, 6, 1, 0, 1)
	steps(t, c, 1, false)
	stands(t, c, 10, 2, 0, 1)
	steps(t, c, 1, true)
	stands(t, c, end, 3, 0, 2)
	if b.r.Pending() != 0 || !slices.EqualFunc(b.all(), was, slices.Equal) {
		t.Error("something was written")
	}
	b.r.Rot(6, 2, 9)
	met(t, b.scrubAll(t), 3, 1, 2, 6)
}

// P17.1: of more than three drives that are gone a block is lost, with the power off too.
func TestGone(t *testing.T) {
	b := lay(t, 5, 20, 300, 300)
	for d := range 3 {
		b.r.Lose(d)
	}
	met(t, b.scrubAll(t), 2, 0, 0)
	b.off()
	c := b.begin(t, b.l)
	fails(t, c, 9, api.ErrDown)
	stands(t, c, 0, 0, 0, 0)
	b.r.Lose(4)
	steps(t, c, 1, false)
	stands(t, c, 9, 1, 0, 1)
	b.r.Replace(4)
	fails(t, c, 1, api.ErrDown)
	stands(t, c, 9, 1, 0, 1)
	b.r.Crash(nil)
	steps(t, c, 1, true)
	stands(t, c, end, 2, 0, 2) // drive 4 has noughts alone
}

// P17.1: a pointer that is no block's is done, and neither wrong nor lost: without power, and without drives, too.
func TestNoBlock(t *testing.T) {
	b := lay(t, 5, 20, 1)
	p := b.l[0]
	for _, power := range []bool{true, false} {
		for _, q := range []api.Ptr{
			{},
			{Addr: -1, Size: 1, Birth: 1, Sum: p.Sum},
			{Addr: math.MinInt, Size: 1, Birth: 1, Sum: p.Sum},
			{Addr: 87, Size: 1, Birth: 1, Sum: p.Sum},
			{Addr: math.MaxInt, Size: 1, Birth: 1, Sum: p.Sum},
			{Size: 0, Birth: 1, Sum: p.Sum},
			{Size: -1, Birth: 1, Sum: p.Sum},
			{Size: 1025, Birth: 1, Sum: p.Sum},
			{Size: 1, Birth: 1, Sum: p.Sum[1:]},
			{Size: 1, Birth: 1, Sum: p.Sum + "x"},
		} {
			c := b.begin(t, []api.Ptr{q})
			stands(t, c, q.Addr, 0, 0, 0)
			steps(t, c, 1, true)
			stands(t, c, end, 1, 0, 0)
		}
		if power {
			for d := range 4 {
				b.r.Lose(d)
			}
			b.off()
		}
	}
}

// P17.1: at the last cell a block is met as anywhere; what would reach beyond is none.
func TestLastCells(t *testing.T) {
	b := lay(t, 5, 20)
	x := bytesOf(1, 7)
	p := api.Ptr{Addr: 86, Size: 1, Birth: 1, Sum: sha.Sum(x)}
	want(t, "Write", b.a.Write(86, x), api.OK)
	want(t, "Flush", b.r.Flush(), api.OK)
	b.r.Replace(4)
	q := p
	q.Addr++
	c := b.begin(t, []api.Ptr{q, p})
	steps(t, c, 9, true)
	stands(t, c, end, 2, 1, 0, 4)
}

// P17.1: the birth tells nothing of a block but its place in the order.
func TestBirth(t *testing.T) {
	for _, n := range wild {
		b := lay(t, 5, 20, 300)
		b.r.Replace(1)
		b.l[0].Birth = n
		met(t, b.scrubAll(t), 1, 1, 0, 1)
	}
}

// P17.1: blocks that nobody has put through the store, or that were given back, are healed too: a scrub keeps to its pointers.
func TestGiven(t *testing.T) {
	b := lay(t, 5, 20, 300, 300)
	c := b.begin(t, b.l)
	want(t, "Give", b.Give(b.l[0]), api.OK)
	b.Settle()
	b.r.Replace(2)
	steps(t, c, 9, true)
	stands(t, c, end, 2, 2, 0, 2)
	b.allWhole(t)
	if k := b.Counts(); k != (store.Counts{Puts: 2}) || b.Txg() != 1 || b.Free() != 81 {
		t.Error(k, b.Txg(), b.Free())
	}
}

// P17.4: the list that is handed in isn't changed, its spare room neither, and isn't kept; answers are new memory.
func TestMemory(t *testing.T) {
	b := lay(t, 5, 40, 300, 200, 700, 1)
	b.r.Replace(3)
	b.r.Replace(1)
	room := []api.Ptr{b.l[2], b.l[0], b.l[3], b.l[1], {Addr: 7, Sum: "spare"}}
	l := slices.Clone(room)
	c := b.begin(t, room[:3])
	d := b.resume(t, room[:3], cursor(9, 1, 1, 0))
	steps(t, c, 1, false)
	if !slices.Equal(room, l) {
		t.Fatal("the list was changed")
	}
	for i := range room {
		room[i] = api.Ptr{}
	}
	o := c.Report()
	o.Drives = append(o.Drives[:0], 9, 9, 9, 9)
	stands(t, c, 14, 1, 1, 0, 1, 3)
	x, y := c.Report().Drives, c.Report().Drives
	x[0] = 8
	if y[0] != 1 {
		t.Error("two answers share memory")
	}
	x = slices.Grow(c.Report().Drives, 9)[:9]
	for i := range x {
		x[i] = 7
	}
	steps(t, c, 9, true)
	stands(t, c, end, 3, 3, 0, 1, 3)
	steps(t, d, 9, true)
	stands(t, d, end, 3, 1, 0)
}

// P17.1: scrubs of one store go each their own way.
func TestTwo(t *testing.T) {
	b := lay(t, 5, 40, 300, 200, 700, 1)
	b.r.Replace(2)
	c, d := b.begin(t, b.l), b.begin(t, b.l[2:])
	steps(t, d, 1, false)
	steps(t, c, 3, false)
	stands(t, c, 29, 3, 2, 0, 2)
	stands(t, d, 29, 1, 1, 0, 2)
	steps(t, c, 1, true)
	steps(t, d, 1, true)
	stands(t, c, end, 4, 3, 0, 2)
	stands(t, d, end, 2, 1, 0, 2)
}
