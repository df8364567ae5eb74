package array_test

import (
	"bytes"
	"slices"
	"testing"

	"hoard/api"
	"hoard/sha"
)

// reads holds a Read to a block and the drives left out.
func (b bed) reads(t *testing.T, addr int, block []byte, must ...int) {
	t.Helper()
	x, out, e := b.Read(addr, len(block), sha.Sum(block))
	if e != api.OK || !bytes.Equal(x, block) || !slices.Equal(out, must) {
		t.Errorf("Read: %v, %v, not %v", out, e, must)
	}
}

// unread holds a Read and a Repair to an error, and nothing else.
func (b bed) unread(t *testing.T, addr, size int, sum string, must api.Errno) {
	t.Helper()
	if x, out, e := b.Read(addr, size, sum); e != must || len(x) != 0 || len(out) != 0 {
		t.Errorf("Read: %v, %v, %v, not %v", x, out, e, must)
	}
	if to, e := b.Repair(addr, size, sum); e != must || len(to) != 0 {
		t.Errorf("Repair: %v, %v, not %v", to, e, must)
	}
}

// threes are all sets of up to three of n drives.
func threes(n int) [][]int {
	r := [][]int{nil}
	for i := range n {
		r = append(r, []int{i})
		for j := range i {
			r = append(r, []int{j, i})
			for k := range j {
				r = append(r, []int{k, j, i})
			}
		}
	}
	return r
}

// fail makes drives fail: lost (0), rotten (1), replaced by new ones (2), or each in another way (3).
func (b bed) fail(drives []int, way int) {
	for i, d := range drives {
		switch (way%3 + i*(way/3)) % 3 {
		case 0:
			b.r.Lose(d)
		case 1:
			for at := range b.r.Sectors() {
				b.r.Rot(d, at, d+at*200)
			}
		case 2:
			b.r.Replace(d)
		}
	}
}

// P6.2: whichever up to three drives fail, and however, what was written is read; of lost ones it is told which.
func TestThreeFail(t *testing.T) {
	for _, drives := range []int{5, 6, 8, 11, 16} {
		for _, size := range []int{1, 300, 1024} {
			block := bytesOf(size, 3)
			for _, set := range threes(drives) {
				for way := range 4 {
					b := lay(t, drives, 12, 0)
					if e := b.Write(2, block); e != api.OK {
						t.Fatal(e)
					}
					b.fail(set, way)
					x, out, e := b.Read(2, size, sha.Sum(block))
					if e != api.OK || !bytes.Equal(x, block) {
						t.Fatalf("%d drives, %d bytes, %v failed (%d): %v, %v", drives, size, set, way, out, e)
					}
					on, _ := b.Drives(2, size)
					lost := slices.DeleteFunc(slices.Clone(set), func(d int) bool { return !slices.Contains(on, d) })
					if way == 0 && !slices.Equal(out, lost) {
						t.Fatalf("%v lost: %v left out", set, out)
					}
				}
			}
		}
	}
}

// P6.2: a block that was written while three drives were gone is read without them, and when they are new ones.
func TestLeftOut(t *testing.T) {
	block := bytesOf(700, 4)
	for _, set := range threes(6) {
		b := lay(t, 6, 5, 0)
		b.fail(set, 0)
		if e := b.Write(0, block); e != api.OK {
			t.Fatal(e)
		}
		b.reads(t, 0, block, set...)
		b.fail(set, 2)
		if x, out, e := b.Read(0, 700, sha.Sum(block)); e != api.OK || !bytes.Equal(x, block) {
			t.Fatal(set, out, e)
		}
	}
}

// P6.1, P6.3: the chapter's second example.
func TestExample(t *testing.T) {
	b := lay(t, 5, 20, 0)
	block := bytesOf(500, 5)
	b.Write(0, block)
	b.r.Lose(1)
	b.r.Rot(3, 0, 77) // the first data sector: without 3 it is P or Q that makes it again
	b.reads(t, 0, block, 1, 3)
	b.r.Replace(1)
	if to, e := b.Repair(0, 500, sha.Sum(block)); e != api.OK || !slices.Equal(to, []int{1, 3}) {
		t.Error(to, e)
	}
	b.reads(t, 0, block)
}

// P6.1: sets of fewer drives are tried ahead of those of more, and rotten parities that nothing needs aren't left out.
func TestOrder(t *testing.T) {
	block := bytesOf(200, 6) // P, Q, R, D0, D1 on the drives 0 to 4
	for _, c := range []struct{ rotten, out []int }{
		{[]int{0}, nil},
		{[]int{0, 1, 2}, nil},
		{[]int{3}, []int{3}},
		{[]int{2, 3}, []int{3}}, // P makes it again
		{[]int{1, 3}, []int{3}},
		{[]int{0, 3}, []int{0, 3}},
		{[]int{0, 1, 4}, []int{0, 1, 4}},
		{[]int{3, 4}, []int{3, 4}},
		{[]int{0, 2, 3}, []int{0, 3}},
		{[]int{2, 3, 4}, []int{3, 4}},
		{[]int{1, 3, 4}, []int{1, 3, 4}},
	} {
		b := lay(t, 5, 3, 0)
		b.Write(0, block)
		for _, d := range c.rotten {
			b.r.Rot(d, 0, 13*d)
		}
		b.reads(t, 0, block, c.out...)
		if to, e := b.Repair(0, 200, sha.Sum(block)); e != api.OK || !slices.Equal(to, c.rotten) {
			t.Errorf("%v rotten: repaired: %v, %v", c.rotten, to, e)
		}
		b.expect(t, 0, block)
		b.reads(t, 0, block)
	}
}

// P6.1: of two sets that do the first one counts.
func TestFirstOfTwo(t *testing.T) {
	block := bytesOf(100, 7) // P, Q, R, D0 on the drives 1 to 4
	b := lay(t, 5, 3, 0)
	b.Write(1, block)
	b.r.Rot(2, 0, 1)
	b.r.Rot(4, 0, 1)
	b.reads(t, 1, block, 4) // {4} does, so do {1, 4} by R, and {2, 4}
	b.r.Rot(1, 0, 1)
	b.reads(t, 1, block, 1, 2, 4)
	b.r.Lose(1)
	b.reads(t, 1, block, 1, 2, 4)
	b.r.Lose(3)
	b.unread(t, 1, 100, sha.Sum(block), api.ErrIO)
}

// P6.1, P6.4: errors, in their order; never other bytes.
func TestReadErrors(t *testing.T) {
	block := bytesOf(300, 8)
	sum := sha.Sum(block)
	b := lay(t, 5, 4, 0)
	b.unread(t, 0, 300, sum, api.ErrIO) // nothing is there
	b.Write(0, block)
	b.unread(t, 0, 299, sum, api.ErrIO)
	b.unread(t, 0, 301, sum, api.ErrIO)
	b.unread(t, 1, 300, sum, api.ErrIO)
	b.unread(t, 0, 300, sha.Sum(block[1:]), api.ErrIO)
	b.Write(10, bytesOf(300, 9))
	b.unread(t, 10, 300, sum, api.ErrIO)
	b.reads(t, 0, block)
	b.r.Flush()
	b.off()
	b.unread(t, 0, 300, sum, api.ErrDown)
	b.unread(t, 10, 300, sum, api.ErrDown) // ahead of: no set does
	for d := range 3 {
		b.r.Lose(d)
	}
	b.unread(t, 0, 300, sum, api.ErrDown)
	b.r.Lose(3)
	b.unread(t, 0, 300, sum, api.ErrIO)
	b.unread(t, 0, 300, sum[1:], api.ErrArg)
	b.unread(t, 0, 0, sum, api.ErrArg)
	b.r.Crash(nil)
	b.unread(t, 0, 300, sum, api.ErrIO)
}

// P6.1: only the block's own drives count: others may be gone.
func TestOthersGone(t *testing.T) {
	block := bytesOf(100, 10)
	b := lay(t, 10, 3, 0)
	b.Write(8, block) // on 8, 9, 0, 1
	for d := 2; d < 8; d++ {
		b.r.Lose(d)
	}
	b.reads(t, 8, block)
	b.r.Lose(1)
	b.reads(t, 8, block, 1)
	b.r.Lose(0)
	b.r.Lose(8)
	b.reads(t, 8, block, 0, 1, 8)
	b.r.Lose(9)
	b.unread(t, 8, 100, sha.Sum(block), api.ErrIO)
}

// P6.3: behind a Repair with no drive gone any three drives more may fail.
func TestRepairedStands(t *testing.T) {
	block := bytesOf(400, 11)
	for _, first := range threes(6) {
		for _, next := range threes(6) {
			b := lay(t, 6, 4, 1)
			b.Write(1, block)
			b.fail(first, 4)
			b.fail(first, 2) // none is gone
			if _, e := b.Repair(1, 400, sha.Sum(block)); e != api.OK {
				t.Fatal(first, e)
			}
			b.reads(t, 1, block)
			b.fail(next, 3)
			if x, out, e := b.Read(1, 400, sha.Sum(block)); e != api.OK || !bytes.Equal(x, block) {
				t.Fatal(first, next, out, e)
			}
		}
	}
}

// P6.1, P6.3: the noughts behind a block belong to it: that they rot is mended, though no sum tells it.
func TestRepairNoughts(t *testing.T) {
	b := lay(t, 5, 3, 0)
	block := bytesOf(1, 12)
	b.Write(0, block)
	b.r.Rot(3, 0, 127)
	b.reads(t, 0, block)
	if to, e := b.Repair(0, 1, sha.Sum(block)); e != api.OK || !slices.Equal(to, []int{3}) {
		t.Error(to, e)
	}
	b.expect(t, 0, block)
}

// P6.1: a Repair of what is whole writes nothing, and needs no power for writing.
func TestRepairWhole(t *testing.T) {
	b := lay(t, 5, 9, 0)
	block := bytesOf(1024, 13)
	b.Write(0, block)
	b.r.Flush()
	b.r.Arm(0)
	if to, e := b.Repair(0, 1024, sha.Sum(block)); e != api.OK || len(to) != 0 || b.r.Pending() != 0 {
		t.Error(to, e, b.r.Pending())
	}
	b.r.Lose(2)
	if to, e := b.Repair(0, 1024, sha.Sum(block)); e != api.OK || len(to) != 0 || b.r.Pending() != 0 {
		t.Error(to, e, b.r.Pending())
	}
}

// P6.1: Repair writes in the order of the cells; of one whose power goes off the first ones wait.
func TestRepairOrder(t *testing.T) {
	block := bytesOf(1000, 14)
	must := cells(block, 6)
	for n := range 8 {
		b := lay(t, 6, 5, 0)
		b.Write(1, block)
		b.r.Flush()
		b.r.Lose(4)
		b.r.Replace(0)
		b.r.Replace(2)
		b.r.Flush()
		b.r.Arm(n)
		to, e := b.Repair(1, 1000, sha.Sum(block))
		b.r.Crash(slices.Repeat([]int{1}, 20))
		wrong := 0
		for i, c := range must {
			if d := (1 + i) % 6; d == 0 || d == 2 {
				wrong++
				if bytes.Equal(b.holds(1+i), c) != (wrong <= n) {
					t.Error("cell", i, "of armed", n)
				}
			}
		}
		if wrong <= n && (e != api.OK || !slices.Equal(to, []int{0, 2})) {
			t.Error(n, to, e)
		}
		if wrong > n && (e != api.ErrDown || len(to) != 0) {
			t.Error(n, to, e)
		}
	}
}
