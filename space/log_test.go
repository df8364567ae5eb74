package space_test

import (
	"math"
	"math/rand"
	"slices"
	"testing"

	"hoard/api"
	"hoard/space"
)

// take and give are lines of a log.
func take(from, n int) space.Op { return space.Op{Take: true, From: from, N: n} }
func give(from, n int) space.Op { return space.Op{From: from, N: n} }

// both holds Replay and Condense of a log to an error.
func both(t *testing.T, cells int, l []space.Op, must api.Errno) {
	t.Helper()
	if s, e := space.Replay(cells, l); s != nil || e != must {
		t.Errorf("Replay(%d, %v): %v, %d, not %d", cells, l, s, e, must)
	}
	if r, e := space.Condense(cells, l); len(r) != 0 || e != must {
		t.Errorf("Condense(%d, %v): %v, %d, not %d", cells, l, r, e, must)
	}
}

// leaves holds Replay and Condense of a log to what is used behind it.
func leaves(t *testing.T, cells int, l []space.Op, free, used []space.Range) {
	t.Helper()
	s, e := space.Replay(cells, l)
	if e != api.OK {
		t.Fatal(l, e)
	}
	n := 0
	for _, r := range free {
		n += r.To - r.From
	}
	is(t, s, n, free, used)
	if n := s.Settle(); n != 0 {
		t.Error("leaving behind a log:", n)
	}
	want(t, "Reserve", s.Reserve(-1), api.ErrArg) // none is kept back
	var must []space.Op
	for _, r := range used {
		must = append(must, take(r.From, r.To-r.From))
	}
	short, e := space.Condense(cells, l)
	if e != api.OK || !slices.Equal(short, must) {
		t.Errorf("Condense(%d, %v) = %v, %d, not %v", cells, l, short, e, must)
	}
}

// The chapter's second example.
func TestExampleCondense(t *testing.T) {
	l, e := space.Condense(9, []space.Op{take(0, 3), give(1, 1), take(3, 2)})
	if e != api.OK || !slices.Equal(l, []space.Op{take(0, 1), take(2, 3)}) {
		t.Error(l, e)
	}
}

// P7.2: what logs leave: no line at all, cells that touch, cells that were given back and are taken again at once.
func TestReplay(t *testing.T) {
	leaves(t, 9, nil, list(0, 9), nil)
	leaves(t, 9, []space.Op{}, list(0, 9), nil)
	leaves(t, 9, []space.Op{take(4, 2)}, list(0, 4, 6, 9), list(4, 6))
	leaves(t, 9, []space.Op{take(4, 2), take(2, 2), take(8, 1)}, list(0, 2, 6, 8), list(2, 6, 8, 9))
	leaves(t, 9, []space.Op{take(0, 9), give(3, 3), take(3, 1), give(0, 4)}, list(0, 6), list(6, 9))
	leaves(t, 9, []space.Op{take(0, 9), give(0, 9)}, list(0, 9), nil)
	leaves(t, 9, []space.Op{take(0, 9), give(0, 9), take(0, 9)}, nil, list(0, 9))
	leaves(t, 9, []space.Op{take(0, 2), take(2, 2), give(1, 2)}, list(1, 3, 4, 9), list(0, 1, 3, 4))
	leaves(t, 1, []space.Op{take(0, 1)}, nil, list(0, 1))
	leaves(t, 40000, []space.Op{take(39999, 1)}, list(0, 39999), list(39999, 40000))
}

// P7.2: Condense of what it answers is the same.
func TestCondenseAgain(t *testing.T) {
	l := []space.Op{take(0, 3), give(1, 1), take(3, 2), take(7, 1)}
	one, _ := space.Condense(9, l)
	two, e := space.Condense(9, one)
	if e != api.OK || len(one) != 3 || !slices.Equal(one, two) {
		t.Error(one, two, e)
	}
}

// P7.2: counts of cells that aren't so, whatever the log is.
func TestLogCells(t *testing.T) {
	for _, cells := range []int{0, -1, 40001, math.MinInt, math.MaxInt} {
		both(t, cells, nil, api.ErrArg)
		both(t, cells, []space.Op{take(0, 1)}, api.ErrArg)
		both(t, cells, []space.Op{give(0, 0)}, api.ErrArg)
	}
}

// P7.2: lines that can't be, alone or behind others.
func TestLogForm(t *testing.T) {
	for _, c := range [][2]int{
		{0, 0}, {3, 0}, {0, -1}, {0, math.MinInt}, {-1, 1}, {-1, 2}, {9, 1}, {8, 2}, {0, 10}, {math.MinInt, 1},
		{math.MaxInt, 1}, {math.MaxInt, math.MaxInt}, {math.MinInt, math.MaxInt}, {1, math.MaxInt}, {math.MinInt, math.MinInt},
	} {
		for _, ahead := range [][]space.Op{nil, {take(0, 9)}, {take(1, 3), give(2, 1)}} {
			both(t, 9, append(slices.Clone(ahead), take(c[0], c[1])), api.ErrForm)
			both(t, 9, append(slices.Clone(ahead), give(c[0], c[1])), api.ErrForm)
			both(t, 9, append(slices.Clone(ahead), give(c[0], c[1]), take(8, 1)), api.ErrForm)
		}
	}
	for _, l := range [][]space.Op{
		{give(0, 1)},
		{take(0, 2), take(1, 1)},
		{take(2, 2), take(0, 3)},
		{take(2, 2), take(3, 3)},
		{take(2, 2), take(1, 5)},
		{take(2, 2), give(1, 2)},
		{take(2, 2), give(3, 2)},
		{take(2, 2), give(2, 1), give(2, 1)},
		{take(2, 4), give(3, 1), give(2, 4)},
		{take(2, 2), take(2, 2)},
	} {
		both(t, 9, l, api.ErrForm)
	}
}

// P7.2: Replay and Condense of any log are as cells told one by one.
func TestLogModel(t *testing.T) {
	rnd := rand.New(rand.NewSource(72))
	ended := 0
	for range 3000 {
		n := 1 + rnd.Intn(12)
		cells := make(row, n)
		var l []space.Op
		ok := true
		for range rnd.Intn(25) {
			o := space.Op{Take: rnd.Intn(2) == 0, From: rnd.Intn(n), N: 1 + rnd.Intn(3)}
			if good := cells.redo(o); !good && rnd.Intn(20) > 0 {
				continue
			} else if !good {
				ok = false
			}
			l = append(l, o)
		}
		if !ok {
			ended++
			both(t, n, l, api.ErrForm)
			continue
		}
		leaves(t, n, l, cells.ranges(free), cells.ranges(used))
	}
	if ended < 300 {
		t.Error("too few logs that can't be:", ended)
	}
}

// redo does a line of a log cell by cell; false: it can't be.
func (c row) redo(o space.Op) bool {
	from, to := byte(used), byte(free)
	if o.Take {
		from, to = to, from
	}
	return c.change(o.From, o.N, from, to)
}

// P7.4: the log isn't changed; what Condense answers is new memory.
func TestLogMemory(t *testing.T) {
	room := []space.Op{take(0, 3), give(1, 1), take(3, 2), take(7, 1), give(0, 9)}
	was := slices.Clone(room)
	s, _ := space.Replay(9, room[:4])
	one, e := space.Condense(9, room[:4])
	if e != api.OK || !slices.Equal(room, was) {
		t.Error(room, e)
	}
	clear(room)
	is(t, s, 4, list(1, 2, 5, 7, 8, 9), list(0, 1, 2, 5, 7, 8))
	two, _ := space.Condense(9, was[:4])
	clear(one[:cap(one)])
	if !slices.Equal(two, []space.Op{take(0, 1), take(2, 3), take(7, 1)}) {
		t.Error(two)
	}
}
