package array_test

import (
	"bytes"
	"math"
	"slices"
	"testing"

	"hoard/api"
	"hoard/array"
	"hoard/rack"
	"hoard/sha"
)

// P6.1: New takes racks of 5 drives on, and their sectors.
func TestNew(t *testing.T) {
	for drives := 1; drives <= 16; drives++ {
		r, _ := rack.New(drives, 7)
		for _, first := range []int{math.MinInt, -1, 0, 1, 6, 7, 8, math.MaxInt} {
			a, e := array.New(r, first)
			if drives >= 5 && first >= 0 && first < 7 {
				if e != api.OK || a.Cells() != drives*(7-first) {
					t.Error(drives, first, a.Cells(), e)
				}
			} else if e != api.ErrArg || a != nil {
				t.Error(drives, first, a, e)
			}
		}
	}
	for _, r := range []*rack.Rack{nil, {}} {
		if a, e := array.New(r, 0); a != nil || e != api.ErrArg {
			t.Error(a, e)
		}
	}
	r, _ := rack.New(16, 2000)
	if a, e := array.New(r, 0); e != api.OK || a.Cells() != 32000 {
		t.Error(a.Cells(), e)
	}
}

// P6.1: the chapter's first example.
func TestExampleCost(t *testing.T) {
	b := lay(t, 5, 20, 0)
	for size, must := range map[int]int{1: 4, 128: 4, 129: 5, 257: 9} {
		if n, e := b.Cost(size); n != must || e != api.OK {
			t.Error(size, n, e)
		}
	}
	if l, e := b.Drives(3, 1); e != api.OK || !slices.Equal(l, []int{0, 1, 3, 4}) {
		t.Error(l, e)
	}
}

// P6.1: Cost of all sizes on all counts of drives, by counting what is written.
func TestCost(t *testing.T) {
	for drives := 5; drives <= 16; drives++ {
		b := lay(t, drives, 30, 0)
		for size := 1; size <= 1024; size++ {
			if n, e := b.Cost(size); e != api.OK || n != len(cells(make([]byte, size), drives)) {
				t.Fatal(drives, size, n, e)
			}
		}
		for _, size := range []int{0, -1, -128, 1025, math.MaxInt, math.MinInt} {
			if n, e := b.Cost(size); e != api.ErrArg || n != 0 {
				t.Error(drives, size, n, e)
			}
		}
	}
}

// P6.1: Drives of all places and some sizes, and of places that aren't there.
func TestDrives(t *testing.T) {
	for drives := 5; drives <= 16; drives++ {
		b := lay(t, drives, 5, 1)
		for _, size := range []int{1, 128, 129, 257, 500, 700, 896, 897, 1024} {
			n, _ := b.Cost(size)
			for addr := -2; addr <= b.Cells()+1; addr++ {
				l, e := b.Drives(addr, size)
				if addr < 0 || addr+n > b.Cells() {
					if e != api.ErrArg || len(l) != 0 {
						t.Fatal(drives, addr, size, l, e)
					}
				} else if e != api.OK || !slices.Equal(l, used(drives, addr, n)) {
					t.Fatal(drives, addr, size, l, e)
				}
			}
		}
	}
}

// refused holds all calls that take a place and a size to ErrArg.
func (b bed) refused(t *testing.T, addr, size int) {
	t.Helper()
	sum := sha.Sum(nil)
	if l, e := b.Drives(addr, size); e != api.ErrArg || len(l) != 0 {
		t.Error("Drives", addr, size, l, e)
	}
	if size >= 0 && size < 1<<20 {
		if e := b.Write(addr, make([]byte, size)); e != api.ErrArg {
			t.Error("Write", addr, size, e)
		}
	}
	if x, l, e := b.Read(addr, size, sum); e != api.ErrArg || len(x) != 0 || len(l) != 0 {
		t.Error("Read", addr, size, x, l, e)
	}
	if l, e := b.Repair(addr, size, sum); e != api.ErrArg || len(l) != 0 {
		t.Error("Repair", addr, size, l, e)
	}
}

// P6.1: places and sizes that aren't there, whatever the power and the drives are.
func TestWrongPlaces(t *testing.T) {
	for _, power := range []int{1, 0} {
		b := lay(t, 6, 4, 1)
		if power == 0 {
			for d := range 6 {
				b.r.Lose(d)
			}
			b.off()
		}
		for _, addr := range []int{math.MinInt, -1, 15, 18, 19, math.MaxInt - 3, math.MaxInt} {
			b.refused(t, addr, 1)
		}
		for _, size := range []int{math.MinInt, -1, 0, 1025, 1 << 19, math.MaxInt} {
			b.refused(t, 0, size)
		}
		b.refused(t, 10, 800)
		b.refused(t, 8, 1024)
		for _, sum := range []string{"", "x", sha.Sum(nil)[1:], sha.Sum(nil) + "x"} {
			if x, l, e := b.Read(0, 1, sum); e != api.ErrArg || len(x) != 0 || len(l) != 0 {
				t.Error(x, l, e)
			}
			if l, e := b.Repair(0, 1, sum); e != api.ErrArg || len(l) != 0 {
				t.Error(l, e)
			}
		}
	}
}

// P6.1: Write writes the block's cells and no others.
func TestWrite(t *testing.T) {
	for drives := 5; drives <= 16; drives++ {
		for n, size := range []int{1, 127, 128, 129, 255, 256, 257, 384, 385, 513, 640, 641, 1000, 1024} {
			b := lay(t, drives, 9, 2)
			cost, _ := b.Cost(size)
			addr := min(n, b.Cells()-cost)
			was := b.all()
			block := bytesOf(size, drives)
			if e := b.Write(addr, block); e != api.OK {
				t.Fatal(e)
			}
			b.expect(t, addr, block)
			if b.r.Pending() != cost {
				t.Error("writes:", b.r.Pending(), "not", cost)
			}
			at := 2*drives + addr
			is := b.all()
			same := func(x, y [][]byte) bool { return slices.EqualFunc(x, y, bytes.Equal) }
			if !same(is[:at], was[:at]) || !same(is[at+cost:], was[at+cost:]) {
				t.Error("other sectors changed")
			}
			if x, out, e := b.Read(addr, size, sha.Sum(block)); e != api.OK || !bytes.Equal(x, block) || len(out) != 0 {
				t.Error(out, e)
			}
		}
	}
}

// P6.1: the cells are written one behind the other: of an array whose power goes off the first ones wait.
func TestWriteOrder(t *testing.T) {
	block := bytesOf(1000, 1)
	must := cells(block, 6)
	for n := range len(must) + 1 {
		for _, lost := range []int{-1, 2, 3} {
			b := lay(t, 6, 5, 0)
			b.r.Lose(lost)
			b.r.Arm(n)
			e := b.Write(1, block)
			b.r.Crash(slices.Repeat([]int{1}, b.r.Pending())) // keeps what waits, and brings the power back
			writes := 0
			for i, c := range must {
				if (1+i)%6 == lost {
					continue
				}
				writes++
				if bytes.Equal(b.holds(1+i), c) != (writes <= n) {
					t.Error("cell", i, "of armed", n)
				}
			}
			if (e == api.OK) != (writes <= n) || e != api.OK && e != api.ErrDown {
				t.Error(n, lost, e)
			}
		}
	}
}

// P6.1: Write leaves drives out that are gone, up to three; of more it writes nothing.
func TestWriteGone(t *testing.T) {
	block := bytesOf(200, 2) // on five cells
	for n := range 6 {
		b := lay(t, 8, 4, 0)
		for i := range n {
			b.r.Lose((6 + i) % 8) // its drives are 6, 7, 0, 1, 2
		}
		e := b.Write(6, block)
		if n <= 3 && (e != api.OK || b.r.Pending() != 5-n) || n > 3 && (e != api.ErrIO || b.r.Pending() != 0) {
			t.Error(n, e, b.r.Pending())
		}
		if n <= 3 {
			b.expect(t, 6, block)
		}
	}
	b := lay(t, 8, 4, 0)
	for _, d := range []int{2, 3, 4, 5} { // only one of its drives
		b.r.Lose(d)
	}
	if e := b.Write(6, block); e != api.OK {
		t.Error(e)
	}
	b.expect(t, 6, block)
}

// P6.1: Write's errors, in their order.
func TestWriteErrors(t *testing.T) {
	b := lay(t, 5, 4, 0)
	b.off()
	if e := b.Write(0, []byte{1}); e != api.ErrDown {
		t.Error(e)
	}
	for d := range 3 {
		b.r.Lose(d)
	}
	if e := b.Write(0, []byte{1}); e != api.ErrDown {
		t.Error(e)
	}
	b.r.Lose(3)
	if e := b.Write(0, []byte{1}); e != api.ErrIO {
		t.Error(e)
	}
	if e := b.Write(0, nil); e != api.ErrArg {
		t.Error(e)
	}
}

// P6.1: of a nil array (and of one that New didn't make) there are no cells, and nothing else.
func TestNil(t *testing.T) {
	for _, a := range []*array.Array{nil, {}} {
		b := bed{Array: a}
		if n := a.Cells(); n != 0 {
			t.Error(n)
		}
		if n, e := a.Cost(1); n != 0 || e != api.ErrArg {
			t.Error(n, e)
		}
		b.refused(t, 0, 1)
		b.refused(t, -1, 0)
	}
}

// P6.5: the block that is handed in isn't kept or changed, its spare room neither; answers are new memory.
func TestMemory(t *testing.T) {
	b := lay(t, 5, 20, 0)
	for _, size := range []int{100, 128, 500} {
		room := bytesOf(1024, 5)
		kept := bytes.Clone(room)
		sum := sha.Sum(kept[:size])
		if e := b.Write(0, room[:size]); e != api.OK || !bytes.Equal(room, kept) {
			t.Fatal("Write changed its block", e)
		}
		clear(room)
		b.expect(t, 0, kept[:size])
		for _, lost := range []int{0, 3} {
			b.r.Lose(lost)
			x, out, e := b.Read(0, size, sum)
			y, other, _ := b.Read(0, size, sum)
			if e != api.OK {
				t.Fatal(e)
			}
			clear(x[:cap(x)])
			clear(out[:cap(out)])
			if !bytes.Equal(y, kept[:size]) || !slices.Equal(other, []int{lost}) {
				t.Error("two answers share memory")
			}
			b.r.Replace(lost)
			if to, e := b.Repair(0, size, sum); e != api.OK || !slices.Equal(to, []int{lost}) {
				t.Error(to, e)
			}
			b.expect(t, 0, kept[:size])
		}
	}
}
