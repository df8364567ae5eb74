package store_test

import (
	"bytes"
	"slices"
	"testing"

	"hoard/api"
	"hoard/sha"
)

// threes are all sets of up to three of n drives.
func threes(n int) [][]int {
	r := [][]int{nil}
	for i := range n {
		r = append(r, []int{i})
		for j := range i {
			r = append(r, []int{j, i})
			for k := range j {
				r = append(r, []int{k, j, i})
			}
		}
	}
	return r
}

// fail makes drives fail: lost (0), rotten (1), replaced by new ones (2), or each in another way (3).
func (b bed) fail(drives []int, way int) {
	for i, d := range drives {
		switch (way%3 + i*(way/3)) % 3 {
		case 0:
			b.r.Lose(d)
		case 1:
			for at := range b.r.Sectors() {
				b.r.Rot(d, at, d+at*200)
			}
		case 2:
			b.r.Replace(d)
		}
	}
}

// P9.2: whichever up to three drives fail, and however, each block is got as it was put; when those are new, and were left out, it is whole again, so that three others may fail.
func TestThreeFail(t *testing.T) {
	sizes := []int{1, 300, 1024}
	for _, drives := range []int{5, 7} {
		for _, first := range threes(drives) {
			for way := range 4 {
				b := lay(t, drives, 30)
				var l []api.Ptr
				for i, n := range sizes {
					l = append(l, b.puts(t, bytesOf(n, i)))
				}
				b.r.Flush()
				b.fail(first, way)
				s := b.anew(t)
				for i, n := range sizes {
					s.gets(t, l[i], bytesOf(n, i))
				}
				b.fail(first, 2)
				s = b.anew(t)
				for i, n := range sizes {
					if s.gets(t, l[i], bytesOf(n, i)); s.Counts().Heals == s.Counts().Reads {
						s.whole(t, l[i], bytesOf(n, i))
					}
					s.Heal(l[i])
					s.whole(t, l[i], bytesOf(n, i))
				}
				b.fail(others(drives, first), way)
				s = b.anew(t)
				for i, n := range sizes {
					s.gets(t, l[i], bytesOf(n, i))
				}
				if t.Failed() {
					t.Fatal(drives, first, way)
				}
			}
		}
	}
}

// others are up to three drives that aren't among some.
func others(drives int, some []int) []int {
	var r []int
	for d := range drives {
		if !slices.Contains(some, d) && len(r) < 3 {
			r = append(r, d)
		}
	}
	return r
}

// whole holds the cells of a block to what array.Write writes there.
func (b bed) whole(t *testing.T, p api.Ptr, x []byte) {
	t.Helper()
	twin := lay(t, b.r.Drives(), b.r.Sectors())
	twin.a.Write(p.Addr, x)
	n, _ := b.a.Cost(p.Size)
	for c := p.Addr; c < p.Addr+n; c++ {
		d, at := c%b.r.Drives(), 2+c/b.r.Drives()
		is, e := b.r.Read(d, at)
		if must, _ := twin.r.Read(d, at); e != api.OK || !bytes.Equal(is, must) {
			t.Fatalf("cell %d: %v, %d, not %v", c, is, e, must)
		}
	}
}

// P9.1: a Get that leaves drives out writes what is wrong, on those that aren't gone, and counts; one that leaves none out writes nothing.
func TestGetHeals(t *testing.T) {
	x := bytesOf(250, 1) // P, Q, R, D0, D1 on the drives 0 to 4
	for _, c := range []struct{ lost, rotten, writes []int }{
		{nil, nil, nil},
		{nil, []int{0}, nil}, // a parity that nothing needs
		{nil, []int{0, 1, 2}, nil},
		{nil, []int{3}, []int{3}},
		{nil, []int{0, 4}, []int{0, 4}},
		{nil, []int{0, 1, 3}, []int{0, 1, 3}},
		{[]int{0}, nil, nil},
		{[]int{3}, nil, nil},
		{[]int{0}, []int{1}, []int{1}}, // as 0 is left out
		{[]int{4}, []int{1, 3}, []int{1, 3}},
		{[]int{1, 2}, []int{3}, []int{3}},
		{[]int{0, 1, 2}, nil, nil},
	} {
		b := lay(t, 5, 4)
		p := b.puts(t, x)
		b.fail(c.lost, 0)
		b.r.Flush()
		b.fail(c.rotten, 1)
		s := b.anew(t)
		s.gets(t, p, x)
		if s.r.Pending() != len(c.writes) {
			t.Errorf("%v lost, %v rotten: %d writes", c.lost, c.rotten, s.r.Pending())
		}
		heals := min(1, len(c.lost)+len(c.writes))
		s.counts(t, 1, 0, 1, heals, 0)
		s.gets(t, p, x)
		s.counts(t, 2, 1, 1, heals, 0)
		if len(c.lost) == 0 && heals > 0 {
			s.whole(t, p, x)
		}
		must := c.rotten
		if heals > 0 {
			must = nil
		}
		if to, e := s.Heal(p); e != api.OK || !slices.Equal(to, must) {
			t.Errorf("%v lost, %v rotten: healed %v, %d", c.lost, c.rotten, to, e)
		}
	}
}

// P9.1: the power that goes off while a block is healed is answered: nothing is counted, nor remembered; what was written waits.
func TestGetDown(t *testing.T) {
	x := bytesOf(1000, 2)
	for n := range 10 {
		b := lay(t, 5, 10)
		p := b.puts(t, x) // four rows of five
		b.r.Flush()
		b.fail([]int{3, 4}, 1) // eight cells
		b.r.Arm(n)
		s := b.anew(t)
		if n < 8 {
			s.ungot(t, p, api.ErrDown)
			s.ungot(t, p, api.ErrDown) // it isn't remembered
		} else {
			s.gets(t, p, x)
		}
		if b.r.Pending() != min(n, 8) {
			t.Errorf("%d cells written, of armed %d", b.r.Pending(), n)
		}
		s.r.Crash(nil)
		s.gets(t, p, x)
		if n < 8 {
			s.counts(t, 1, 0, 1, 1, 0)
		} else {
			s.counts(t, 2, 1, 1, 1, 0)
		}
		s.cells(t, 20, 0, 20)
	}
}

// P9.1: a block that drives are gone of, and nothing else is wrong with, is got though nothing can be written.
func TestGetGone(t *testing.T) {
	b := lay(t, 6, 10)
	x := bytesOf(600, 3)
	p := b.puts(t, x)
	b.r.Flush()
	b.fail([]int{0, 2, 5}, 0)
	b.r.Arm(0)
	s := b.anew(t)
	s.gets(t, p, x)
	s.counts(t, 1, 0, 1, 1, 0)
	s.off()
	s.gets(t, p, x)
	s.counts(t, 2, 1, 1, 1, 0)
	s.anew(t).ungot(t, p, api.ErrDown)
	b.r.Lose(1)
	s.anew(t).ungot(t, p, api.ErrIO)
	s.gets(t, p, x)
}

// P9.1: Get's errors of the array, in their order; what isn't got isn't remembered.
func TestGetErrors(t *testing.T) {
	b := lay(t, 5, 10)
	x := bytesOf(300, 4)
	p := b.puts(t, x)
	b.r.Flush()
	s := b.anew(t)
	b.fail([]int{0, 1, 3, 4}, 1)
	s.ungot(t, p, api.ErrIO) // four are rotten
	s.r.Lose(0)
	s.ungot(t, p, api.ErrIO)
	b.off()
	s.ungot(t, p, api.ErrDown)
	b.r.Crash(nil)
	s.ungot(t, p, api.ErrIO)
	b.gets(t, p, x) // the one that put it has it still
	if b.r.Pending() != 0 {
		t.Error("something was written")
	}
}

// P9.1: Heal answers as array.Repair.
func TestHeal(t *testing.T) {
	b := lay(t, 5, 10)
	x := bytesOf(200, 5)
	p := b.puts(t, x)
	b.r.Flush()
	b.fail([]int{0, 2, 4}, 1)
	if to, e := b.Heal(p); e != api.OK || !slices.Equal(to, []int{0, 2, 4}) || b.r.Pending() != 3 {
		t.Error(to, e, b.r.Pending())
	}
	b.whole(t, p, x)
	b.r.Flush()
	b.r.Lose(1)
	b.r.Replace(3)
	b.r.Arm(0)
	for _, c := range []struct {
		p    api.Ptr
		must api.Errno
	}{
		{api.Ptr{Addr: 0, Size: 0, Sum: p.Sum}, api.ErrArg},
		{api.Ptr{Addr: 38, Size: 1, Sum: p.Sum}, api.ErrArg},
		{api.Ptr{Addr: 0, Size: 200, Sum: p.Sum[1:]}, api.ErrArg},
		{api.Ptr{Addr: 0, Size: 200, Sum: sha.Sum(nil)}, api.ErrIO},
		{p, api.ErrDown},
	} {
		if to, e := b.Heal(c.p); e != c.must || len(to) != 0 {
			t.Error(tell(c.p), to, e)
		}
	}
	b.r.Crash(nil)
	p.Birth = -1
	if to, e := b.Heal(p); e != api.OK || !slices.Equal(to, []int{3}) {
		t.Error(to, e)
	}
	b.counts(t, 0, 0, 0, 0, 1)
}
