package space_test

import (
	"math"
	"slices"
	"testing"

	"hoard/api"
	"hoard/space"
)

// list is ranges of pairs of numbers.
func list(n ...int) []space.Range {
	var r []space.Range
	for i := 0; i < len(n); i += 2 {
		r = append(r, space.Range{From: n[i], To: n[i+1]})
	}
	return r
}

// build is a new space.
func build(t *testing.T, cells int, used ...int) *space.Space {
	t.Helper()
	s, e := space.New(cells, list(used...))
	if e != api.OK || s == nil {
		t.Fatal("New", cells, used, e)
	}
	return s
}

// want holds an error against the one that must be.
func want(t *testing.T, what string, got, must api.Errno) {
	t.Helper()
	if got != must {
		t.Errorf("%s: error %d, not %d", what, got, must)
	}
}

// takes holds a Take to its answer: a place, or (below 0) none.
func takes(t *testing.T, s *space.Space, n, must int) {
	t.Helper()
	a, e := s.Take(n)
	if must < 0 && (e != api.ErrSpace || a != 0) || must >= 0 && (e != api.OK || a != must) {
		t.Errorf("Take(%d) = %d, %d, not %d", n, a, e, must)
	}
}

// is holds a space to what is free and used of it.
func is(t *testing.T, s *space.Space, count int, free, used []space.Range) {
	t.Helper()
	if s.Free() != count || !slices.Equal(s.Ranges(), free) || !slices.Equal(s.Used(), used) {
		t.Errorf("%d free, %v, used %v; not %d, %v, %v", s.Free(), s.Ranges(), s.Used(), count, free, used)
	}
}

// The chapter's first example.
func TestExampleSpace(t *testing.T) {
	s := build(t, 10, 2, 4)
	takes(t, s, 2, 0)
	takes(t, s, 3, 4)
	takes(t, s, 5, -1)
	if s.Free() != 3 {
		t.Error(s.Free())
	}
	want(t, "Give", s.Give(2, 2), api.OK)
	is(t, s, 3, list(7, 10), list(0, 2, 4, 7))
	if n := s.Settle(); n != 2 {
		t.Error(n)
	}
	is(t, s, 5, list(2, 4, 7, 10), list(0, 2, 4, 7))
	refused(t, 10, list(2, 4, 3, 5), api.ErrThere)
	refused(t, 10, list(4, 4), api.ErrForm)
}

// refused holds a New to an error.
func refused(t *testing.T, cells int, used []space.Range, must api.Errno) {
	t.Helper()
	if s, e := space.New(cells, used); s != nil || e != must {
		t.Errorf("New(%d, %v): %v, %d, not %d", cells, used, s, e, must)
	}
}

// P7.1: New takes 1 to 40000 cells, whatever the ranges are.
func TestNewCells(t *testing.T) {
	for _, n := range []int{1, 2, 39999, 40000} {
		s := build(t, n)
		is(t, s, n, list(0, n), nil)
		s = build(t, n, 0, n)
		is(t, s, 0, nil, list(0, n))
		s = build(t, n, n-1, n)
		is(t, s, n-1, slices.DeleteFunc(list(0, n-1), func(r space.Range) bool { return r.To == 0 }), list(n-1, n))
	}
	for _, n := range []int{0, -1, 40001, math.MaxInt, math.MinInt} {
		refused(t, n, nil, api.ErrArg)
		refused(t, n, list(0, 1), api.ErrArg)
		refused(t, n, list(3, 3), api.ErrArg)
		refused(t, n, list(0, 1, 0, 1), api.ErrArg)
	}
}

// P7.1: what is no range of the cells, wherever it stands, ahead of cells in common.
func TestNewForm(t *testing.T) {
	for _, r := range [][]int{
		{4, 4}, {5, 4}, {0, 0}, {10, 10}, {-1, 2}, {-2, -1}, {9, 11}, {10, 11}, {11, 12}, {0, 11}, {-1, 11},
		{math.MinInt, math.MaxInt}, {math.MaxInt, math.MinInt}, {0, math.MaxInt}, {0, math.MinInt},
		{math.MinInt, 1}, {math.MaxInt, math.MaxInt}, {math.MinInt, math.MinInt},
	} {
		refused(t, 10, list(r...), api.ErrForm)
		refused(t, 10, list(append([]int{0, 9}, r...)...), api.ErrForm)
		refused(t, 10, list(append([]int{2, 4, 3, 5}, r...)...), api.ErrForm)
		refused(t, 10, list(append(slices.Clone(r), 2, 4, 3, 5)...), api.ErrForm)
	}
}

// P7.1: two ranges with a cell in common, in whatever order and however far apart in the list.
func TestNewThere(t *testing.T) {
	for _, l := range [][]int{
		{2, 4, 3, 5}, {3, 5, 2, 4}, {2, 4, 2, 4}, {0, 10, 9, 10}, {5, 6, 0, 10}, {0, 10, 5, 6}, {0, 1, 0, 10},
		{8, 9, 1, 2, 3, 5, 4, 6}, {4, 6, 8, 9, 1, 2, 3, 5}, {1, 3, 3, 5, 2, 4}, {0, 5, 5, 10, 4, 5},
	} {
		refused(t, 10, list(l...), api.ErrThere)
	}
}

// P7.1: ranges may touch, and come in whatever order; the lists tell the fewest, rising.
func TestNewUsed(t *testing.T) {
	for _, c := range []struct{ in, free, used []int }{
		{nil, []int{0, 10}, nil},
		{[]int{3, 5, 5, 7}, []int{0, 3, 7, 10}, []int{3, 7}},
		{[]int{5, 7, 3, 5}, []int{0, 3, 7, 10}, []int{3, 7}},
		{[]int{7, 8, 1, 2, 4, 5}, []int{0, 1, 2, 4, 5, 7, 8, 10}, []int{1, 2, 4, 5, 7, 8}},
		{[]int{0, 1, 9, 10}, []int{1, 9}, []int{0, 1, 9, 10}},
		{[]int{2, 4, 6, 8, 4, 6}, []int{0, 2, 8, 10}, []int{2, 8}},
		{[]int{5, 10, 0, 5}, nil, []int{0, 10}},
	} {
		s := build(t, 10, c.in...)
		n := 0
		for i := 0; i < len(c.free); i += 2 {
			n += c.free[i+1] - c.free[i]
		}
		is(t, s, n, list(c.free...), list(c.used...))
	}
	s, e := space.New(10, []space.Range{})
	if e != api.OK {
		t.Fatal(e)
	}
	is(t, s, 10, list(0, 10), nil)
}

// P7.1: Take is the first place that has room, not the one that fits best.
func TestTakeFirst(t *testing.T) {
	s := build(t, 20, 0, 1, 2, 4, 9, 10, 12, 13)
	takes(t, s, 2, 4) // not 10, which has room for just 2; 1 has room for one
	takes(t, s, 4, 13)
	takes(t, s, 4, -1)
	takes(t, s, 1, 1)
	takes(t, s, 3, 6)
	takes(t, s, 3, 17)
	takes(t, s, 3, -1)
	is(t, s, 2, list(10, 12), list(0, 10, 12, 20))
	takes(t, s, 2, 10)
	takes(t, s, 1, -1)
	is(t, s, 0, nil, list(0, 20))
}

// P7.1: counts of cells that Take doesn't take.
func TestTakeErrors(t *testing.T) {
	s := build(t, 10, 2, 4)
	for _, n := range []int{0, -1, math.MinInt} {
		if a, e := s.Take(n); a != 0 || e != api.ErrArg {
			t.Error(n, a, e)
		}
	}
	for _, n := range []int{7, 8, 9, 10, 11, math.MaxInt} { // 7 and 8: as many as are free, but not in a row
		takes(t, s, n, -1)
	}
	is(t, s, 8, list(0, 2, 4, 10), list(2, 4))
	takes(t, s, 6, 4)
	s = build(t, 5, 0, 5)
	takes(t, s, 1, -1)
	if a, e := s.Take(0); a != 0 || e != api.ErrArg {
		t.Error(a, e)
	}
}

// P7.1: Give takes used cells alone, and changes nothing else.
func TestGive(t *testing.T) {
	s := build(t, 10, 2, 8)
	for _, c := range [][2]int{
		{2, 0}, {2, -1}, {2, math.MinInt}, {-1, 1}, {-1, 3}, {10, 1}, {9, 2}, {2, 9}, {0, 11}, {math.MinInt, 1},
		{math.MaxInt, 1}, {math.MaxInt, math.MaxInt}, {math.MinInt, math.MaxInt}, {2, math.MaxInt}, {1, math.MaxInt - 1},
		{math.MinInt, math.MinInt}, {-1, 0}, {5, -3},
	} {
		want(t, "Give", s.Give(c[0], c[1]), api.ErrArg)
	}
	for _, c := range [][2]int{{0, 1}, {9, 1}, {1, 2}, {7, 2}, {0, 10}, {2, 7}, {1, 7}, {8, 2}} {
		want(t, "Give", s.Give(c[0], c[1]), api.ErrMiss)
	}
	is(t, s, 4, list(0, 2, 8, 10), list(2, 8))
	want(t, "Give", s.Give(4, 2), api.OK)
	is(t, s, 4, list(0, 2, 8, 10), list(2, 4, 6, 8))
	for _, c := range [][2]int{{4, 2}, {4, 1}, {5, 1}, {3, 2}, {5, 2}, {2, 6}} { // what leaves isn't used any more
		want(t, "Give", s.Give(c[0], c[1]), api.ErrMiss)
	}
	is(t, s, 4, list(0, 2, 8, 10), list(2, 4, 6, 8))
	want(t, "Give", s.Give(2, 2), api.OK)
	want(t, "Give", s.Give(6, 2), api.OK)
	is(t, s, 4, list(0, 2, 8, 10), nil)
	if n := s.Settle(); n != 6 {
		t.Error(n)
	}
	is(t, s, 10, list(0, 10), nil)
}

// P7.1: a Give of cells that were taken one by one, and of parts of what was taken in one go.
func TestGiveParts(t *testing.T) {
	s := build(t, 6)
	for i := range 6 {
		takes(t, s, 1, i)
	}
	want(t, "Give", s.Give(1, 4), api.OK)
	is(t, s, 0, nil, list(0, 1, 5, 6))
	s.Settle()
	is(t, s, 4, list(1, 5), list(0, 1, 5, 6))
	takes(t, s, 4, 1)
	want(t, "Give", s.Give(2, 1), api.OK)
	want(t, "Give", s.Give(4, 1), api.OK)
	want(t, "Give", s.Give(3, 1), api.OK)
	if n := s.Settle(); n != 3 {
		t.Error(n)
	}
	is(t, s, 3, list(2, 5), list(0, 2, 5, 6))
}

// P7.1, P7.3: what is leaving is neither free nor used until it is settled.
func TestLeaving(t *testing.T) {
	s := build(t, 4, 0, 4)
	if n := s.Settle(); n != 0 {
		t.Error(n)
	}
	want(t, "Give", s.Give(0, 4), api.OK)
	takes(t, s, 1, -1)
	is(t, s, 0, nil, nil)
	want(t, "Reserve", s.Reserve(1), api.ErrSpace)
	if n := s.Settle(); n != 4 {
		t.Error(n)
	}
	if n := s.Settle(); n != 0 {
		t.Error("settled twice:", n)
	}
	is(t, s, 4, list(0, 4), nil)
	takes(t, s, 4, 0)
	want(t, "Give", s.Give(1, 1), api.OK)
	if n := s.Settle(); n != 1 {
		t.Error(n)
	}
	is(t, s, 1, list(1, 2), list(0, 1, 2, 4))
}

// P7.1: what is kept back counts as none that is free, but stands among the free cells.
func TestReserve(t *testing.T) {
	s := build(t, 10, 2, 4)
	want(t, "Reserve", s.Reserve(0), api.OK)
	want(t, "Reserve", s.Reserve(9), api.ErrSpace)
	want(t, "Reserve", s.Reserve(math.MaxInt), api.ErrSpace)
	want(t, "Reserve", s.Reserve(-1), api.ErrArg)
	want(t, "Reserve", s.Reserve(math.MinInt), api.ErrArg)
	is(t, s, 8, list(0, 2, 4, 10), list(2, 4))
	want(t, "Reserve", s.Reserve(3), api.OK)
	is(t, s, 5, list(0, 2, 4, 10), list(2, 4))
	takes(t, s, 6, -1) // 6 are in a row, but only 5 may be taken
	takes(t, s, 5, 4)
	is(t, s, 0, list(0, 2, 9, 10), list(2, 9))
	takes(t, s, 1, -1)
	want(t, "Reserve", s.Reserve(1), api.ErrSpace)
	want(t, "Reserve", s.Reserve(math.MaxInt), api.ErrSpace)
	want(t, "Reserve", s.Reserve(0), api.OK)
	want(t, "Reserve", s.Reserve(-4), api.ErrArg)
	want(t, "Reserve", s.Reserve(math.MinInt), api.ErrArg)
	want(t, "Reserve", s.Reserve(-2), api.OK)
	is(t, s, 2, list(0, 2, 9, 10), list(2, 9))
	takes(t, s, 1, 0)
	want(t, "Reserve", s.Reserve(-2), api.ErrArg)
	want(t, "Reserve", s.Reserve(-1), api.OK)
	want(t, "Reserve", s.Reserve(-1), api.ErrArg)
	want(t, "Reserve", s.Reserve(2), api.OK)
	is(t, s, 0, list(1, 2, 9, 10), list(0, 1, 2, 9))
	want(t, "Give", s.Give(4, 5), api.OK)
	s.Settle()
	is(t, s, 5, list(1, 2, 4, 10), list(0, 1, 2, 4))
	s = build(t, 40000)
	want(t, "Reserve", s.Reserve(40001), api.ErrSpace)
	want(t, "Reserve", s.Reserve(40000), api.OK)
	is(t, s, 0, list(0, 40000), nil)
	want(t, "Reserve", s.Reserve(-40001), api.ErrArg)
	want(t, "Reserve", s.Reserve(-40000), api.OK)
	is(t, s, 40000, list(0, 40000), nil)
}

// P7.1: a Copy is just like it, what leaves and what is kept back too; then each goes its own way.
func TestCopy(t *testing.T) {
	s := build(t, 10, 2, 8)
	want(t, "Give", s.Give(3, 2), api.OK)
	want(t, "Reserve", s.Reserve(1), api.OK)
	c := s.Copy()
	for range 2 {
		is(t, c, 3, list(0, 2, 8, 10), list(2, 3, 5, 8))
		takes(t, s, 2, 0)
		want(t, "Give", s.Give(0, 3), api.OK)
		want(t, "Reserve", s.Reserve(-1), api.OK)
		if n := s.Settle(); n != 5 {
			t.Error(n)
		}
		is(t, s, 7, list(0, 5, 8, 10), list(5, 8))
		is(t, c, 3, list(0, 2, 8, 10), list(2, 3, 5, 8))
		s, c = c, c.Copy() // and what is done to a copy
	}
	if n := c.Settle(); n != 2 {
		t.Error(n)
	}
	want(t, "Reserve", c.Reserve(-1), api.OK)
	want(t, "Reserve", c.Reserve(-1), api.ErrArg)
	takes(t, c, 2, 0)
	is(t, c, 4, list(3, 5, 8, 10), list(0, 3, 5, 8))
}

// P1: a nil space, and one that New didn't make.
func TestNil(t *testing.T) {
	var none *space.Space
	if c := none.Copy(); c != nil {
		t.Error(c)
	}
	var blank space.Space
	for _, s := range []*space.Space{none, &blank, blank.Copy()} {
		if s.Free() != 0 || s.Settle() != 0 || len(s.Ranges()) != 0 || len(s.Used()) != 0 {
			t.Error(s.Free(), s.Ranges(), s.Used())
		}
		for _, n := range []int{math.MinInt, -1, 0, 1, math.MaxInt} {
			if a, e := s.Take(n); a != 0 || e != api.ErrArg {
				t.Error(a, e)
			}
			want(t, "Give", s.Give(0, n), api.ErrArg)
			want(t, "Give", s.Give(n, 1), api.ErrArg)
			want(t, "Reserve", s.Reserve(n), api.ErrArg)
		}
	}
}

// P7.4: the ranges that are handed in aren't changed, nor kept; answers are new memory.
func TestMemory(t *testing.T) {
	room := list(6, 8, 2, 4, 4, 5, 0, 1)
	was := slices.Clone(room)
	s, e := space.New(10, room[:3])
	if e != api.OK || !slices.Equal(room, was) {
		t.Fatal(e, room)
	}
	clear(room)
	for range 2 {
		is(t, s, 5, list(0, 2, 5, 6, 8, 10), list(2, 5, 6, 8))
		for _, l := range [][]space.Range{s.Ranges(), s.Used()} {
			clear(l[:cap(l)])
			_ = append(l, space.Range{From: 1, To: 9})
		}
	}
	free, used := s.Ranges(), s.Used()
	takes(t, s, 2, 0)
	want(t, "Give", s.Give(4, 3), api.ErrMiss)
	want(t, "Give", s.Give(6, 1), api.OK)
	s.Settle()
	if !slices.Equal(free, list(0, 2, 5, 6, 8, 10)) || !slices.Equal(used, list(2, 5, 6, 8)) {
		t.Error("an answer changed:", free, used)
	}
}
