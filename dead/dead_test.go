package dead_test

import (
	"math"
	"slices"
	"testing"

	"hoard/api"
	"hoard/dead"
)

// born is a block, with a number of its own, that was born in a transaction.
func born(addr, birth int) api.Ptr { return api.Ptr{Addr: addr, Size: 5, Birth: birth, Sum: "s"} }

// blocks are some, numbered from one on.
func blocks(addr int, births ...int) []api.Ptr {
	var l []api.Ptr
	for i, b := range births {
		l = append(l, born(addr+i, b))
	}
	return l
}

// same: have two lines just the same?
func same(a, b dead.Line) bool {
	return a.Base == b.Base && slices.Equal(a.Dead, b.Dead) && slices.EqualFunc(a.Snaps, b.Snaps, func(x, y dead.Snap) bool {
		return x.Txg == y.Txg && slices.Equal(x.Dead, y.Dead)
	})
}

// none: has a line nothing?
func none(l dead.Line) bool { return l.Base == 0 && l.Snaps == nil && l.Dead == nil }

// clone shares no memory with a line.
func clone(l dead.Line) dead.Line {
	c := dead.Line{Base: l.Base, Dead: slices.Clone(l.Dead)}
	for _, s := range l.Snaps {
		c.Snaps = append(c.Snaps, dead.Snap{Txg: s.Txg, Dead: slices.Clone(s.Dead)})
	}
	return c
}

// kills holds a Kill to what it must answer.
func kills(t *testing.T, l dead.Line, p api.Ptr, must dead.Line, free bool) dead.Line {
	t.Helper()
	r, f, e := dead.Kill(l, p)
	if e != api.OK || f != free || !same(r, must) {
		t.Errorf("Kill of %v: %v, %v, %d, not %v, %v", p, r, f, e, must, free)
	}
	return r
}

// snaps holds a Snapshot to what it must answer.
func snaps(t *testing.T, l dead.Line, txg int, must dead.Line) dead.Line {
	t.Helper()
	r, e := dead.Snapshot(l, txg)
	if e != api.OK || !same(r, must) {
		t.Errorf("Snapshot in %d: %v, %d, not %v", txg, r, e, must)
	}
	return r
}

// destroys holds a Destroy to what it must answer.
func destroys(t *testing.T, l dead.Line, which int, must dead.Line, free []api.Ptr) dead.Line {
	t.Helper()
	r, f, e := dead.Destroy(l, which)
	if e != api.OK || !slices.Equal(f, free) || !same(r, must) {
		t.Errorf("Destroy of %d: %v, %v, %d, not %v, %v", which, r, f, e, must, free)
	}
	return r
}

// The chapter's examples.
func TestExamples(t *testing.T) {
	p := blocks(7, 1)
	l := snaps(t, dead.Line{}, 2, dead.Line{Snaps: []dead.Snap{{Txg: 2}}})
	kills(t, l, born(9, 3), l, true)
	l = kills(t, l, p[0], dead.Line{Snaps: []dead.Snap{{Txg: 2}}, Dead: p}, false)
	destroys(t, l, 0, dead.Line{}, p)
	l = snaps(t, l, 4, dead.Line{Snaps: []dead.Snap{{Txg: 2}, {Txg: 4, Dead: p}}})
	l = destroys(t, l, 1, dead.Line{Snaps: []dead.Snap{{Txg: 2}}, Dead: p}, nil)
	destroys(t, l, 0, dead.Line{}, p)
}

// P11.1: which lines are in form, at each edge; of the others all calls say so, ahead of everything else.
func TestForm(t *testing.T) {
	for _, c := range []struct {
		what string
		l    dead.Line
		ok   bool
	}{
		{"nothing", dead.Line{}, true},
		{"empty lists", dead.Line{Snaps: []dead.Snap{}, Dead: []api.Ptr{}}, true},
		{"a base", dead.Line{Base: math.MaxInt}, true},
		{"a base below 0", dead.Line{Base: -1}, false},
		{"the least base", dead.Line{Base: math.MinInt}, false},
		{"a base below 0 with a snapshot", dead.Line{Base: -1, Snaps: []dead.Snap{{Txg: 1}}}, false},
		{"a snapshot", dead.Line{Snaps: []dead.Snap{{Txg: 1}}}, true},
		{"a snapshot at the base", dead.Line{Snaps: []dead.Snap{{}}}, false},
		{"a snapshot below the base", dead.Line{Base: 5, Snaps: []dead.Snap{{Txg: 4}}}, false},
		{"a snapshot above the base", dead.Line{Base: 5, Snaps: []dead.Snap{{Txg: 6}}}, true},
		{"a snapshot below 0", dead.Line{Snaps: []dead.Snap{{Txg: math.MinInt}}}, false},
		{"rising ones", dead.Line{Snaps: []dead.Snap{{Txg: 1}, {Txg: 2}, {Txg: math.MaxInt}}}, true},
		{"two of one", dead.Line{Snaps: []dead.Snap{{Txg: 1}, {Txg: 2}, {Txg: 2}}}, false},
		{"falling ones", dead.Line{Snaps: []dead.Snap{{Txg: 1}, {Txg: 3}, {Txg: 2}}}, false},
		{"a first list of the base", dead.Line{Base: 4, Snaps: []dead.Snap{{Txg: 6, Dead: blocks(1, 4, 0, -1)}}}, true},
		{"a first list behind the base", dead.Line{Base: 4, Snaps: []dead.Snap{{Txg: 6, Dead: blocks(1, 4, 5, 1)}}}, false},
		{"a list of the one ahead", dead.Line{Snaps: []dead.Snap{{Txg: 6}, {Txg: 9, Dead: blocks(1, 6, 1)}}}, true},
		{"a list behind the one ahead", dead.Line{Snaps: []dead.Snap{{Txg: 6}, {Txg: 9, Dead: blocks(1, 1, 7)}}}, false},
		{"Dead of the base", dead.Line{Base: 3, Dead: blocks(1, 3, math.MinInt)}, true},
		{"Dead behind the base", dead.Line{Base: 3, Dead: blocks(1, 3, 4)}, false},
		{"Dead of the last", dead.Line{Base: 3, Snaps: []dead.Snap{{Txg: 5}, {Txg: 9}}, Dead: blocks(1, 9, 2)}, true},
		{"Dead behind the last", dead.Line{Base: 3, Snaps: []dead.Snap{{Txg: 5}, {Txg: 9}}, Dead: blocks(1, 10)}, false},
		{"Dead as late as can be", dead.Line{Base: 3, Dead: blocks(1, math.MaxInt)}, false},
	} {
		if e := dead.Check(c.l); (e == api.OK) != c.ok || !c.ok && e != api.ErrForm {
			t.Errorf("%s: %d", c.what, e)
		}
		if !c.ok {
			unformed(t, c.what, c.l)
		}
	}
}

// unformed holds all calls of a line that isn't in form to ErrForm, and nothing else.
func unformed(t *testing.T, what string, l dead.Line) {
	t.Helper()
	for _, n := range []int{math.MinInt, -1, 0, 1, 50, math.MaxInt} {
		if r, free, e := dead.Kill(l, born(1, n)); !none(r) || free || e != api.ErrForm {
			t.Errorf("%s: Kill: %v, %v, %d", what, r, free, e)
		}
		if r, e := dead.Snapshot(l, n); !none(r) || e != api.ErrForm {
			t.Errorf("%s: Snapshot: %v, %d", what, r, e)
		}
		if r, free, e := dead.Destroy(l, n); !none(r) || free != nil || e != api.ErrForm {
			t.Errorf("%s: Destroy: %v, %v, %d", what, r, free, e)
		}
	}
}

// P11.1: Kill about the last transaction: of the base, of snapshots; any block may be killed.
func TestKill(t *testing.T) {
	for _, l := range []dead.Line{
		{Base: 5, Dead: blocks(20, 5, 1)},
		{Base: 2, Snaps: []dead.Snap{{Txg: 5}}, Dead: blocks(20, 5, 3)},
		{Snaps: []dead.Snap{{Txg: 3}, {Txg: 5, Dead: blocks(30, 1)}}},
	} {
		for _, n := range []int{6, 7, math.MaxInt} {
			kills(t, l, born(1, n), l, true)
		}
		for _, n := range []int{5, 4, 0, -1, math.MinInt} {
			must := clone(l)
			must.Dead = append(must.Dead, born(1, n))
			kills(t, l, born(1, n), must, false)
		}
	}
	kills(t, dead.Line{}, api.Ptr{}, dead.Line{Dead: []api.Ptr{{}}}, false)
	kills(t, dead.Line{}, born(1, 1), dead.Line{}, true)
	kills(t, dead.Line{Base: math.MaxInt}, born(1, math.MaxInt), dead.Line{Base: math.MaxInt, Dead: blocks(1, math.MaxInt)}, false)
	twice := dead.Line{Base: 5, Dead: blocks(20, 5)}
	kills(t, twice, born(20, 5), dead.Line{Base: 5, Dead: []api.Ptr{born(20, 5), born(20, 5)}}, false)
}

// P11.1: Snapshot takes Dead over, and refuses what isn't above the last transaction.
func TestSnapshot(t *testing.T) {
	base := dead.Line{Base: 5, Dead: blocks(20, 5, 1)}
	one := dead.Line{Base: 5, Snaps: []dead.Snap{{Txg: 8, Dead: blocks(20, 5, 1)}}, Dead: blocks(40, 8)}
	for _, n := range []int{6, 7, math.MaxInt} {
		snaps(t, base, n, dead.Line{Base: 5, Snaps: []dead.Snap{{Txg: n, Dead: blocks(20, 5, 1)}}})
	}
	snaps(t, one, 9, dead.Line{Base: 5, Snaps: []dead.Snap{{Txg: 8, Dead: blocks(20, 5, 1)}, {Txg: 9, Dead: blocks(40, 8)}}})
	for _, c := range []struct {
		l dead.Line
		n int
	}{
		{base, 5}, {base, 4}, {base, 0}, {base, -1}, {base, math.MinInt}, {one, 8}, {one, 6}, {one, 5},
		{dead.Line{}, 0}, {dead.Line{Base: math.MaxInt}, math.MaxInt},
	} {
		if r, e := dead.Snapshot(c.l, c.n); !none(r) || e != api.ErrArg {
			t.Errorf("Snapshot of %v in %d: %v, %d", c.l, c.n, r, e)
		}
	}
}

// P11.1: Destroy of the first, a middle and the last one: what is free in its order, what stays behind that of the one that goes.
func TestDestroy(t *testing.T) {
	l := dead.Line{Base: 10, Snaps: []dead.Snap{
		{Txg: 20, Dead: blocks(100, 10, 4)},
		{Txg: 30, Dead: blocks(200, 10, 20, 11, 3, 15)},
		{Txg: 40, Dead: blocks(300, 21, 20, 30, 2, 25)},
	}, Dead: blocks(400, 31, 40, 30, 7, 35)}
	destroys(t, l, 0, dead.Line{Base: 10, Snaps: []dead.Snap{
		{Txg: 30, Dead: []api.Ptr{born(100, 10), born(101, 4), born(200, 10), born(203, 3)}}, l.Snaps[2],
	}, Dead: l.Dead}, []api.Ptr{born(201, 20), born(202, 11), born(204, 15)})
	destroys(t, l, 1, dead.Line{Base: 10, Snaps: []dead.Snap{
		l.Snaps[0], {Txg: 40, Dead: append(blocks(200, 10, 20, 11, 3, 15), born(301, 20), born(303, 2))},
	}, Dead: l.Dead}, []api.Ptr{born(300, 21), born(302, 30), born(304, 25)})
	destroys(t, l, 2, dead.Line{Base: 10, Snaps: l.Snaps[:2],
		Dead: append(blocks(300, 21, 20, 30, 2, 25), born(402, 30), born(403, 7))},
		[]api.Ptr{born(400, 31), born(401, 40), born(404, 35)})
	for _, n := range []int{-1, 3, 4, math.MinInt, math.MaxInt} {
		if r, free, e := dead.Destroy(l, n); !none(r) || free != nil || e != api.ErrArg {
			t.Errorf("Destroy of %d: %v, %v, %d", n, r, free, e)
		}
	}
	if r, free, e := dead.Destroy(dead.Line{Base: 3, Dead: blocks(1, 3)}, 0); !none(r) || free != nil || e != api.ErrArg {
		t.Errorf("Destroy of none: %v, %v, %d", r, free, e)
	}
	destroys(t, dead.Line{Base: 3, Snaps: []dead.Snap{{Txg: 5}}, Dead: blocks(1, 3, 4)}, 0, dead.Line{Base: 3, Dead: blocks(1, 3)}, blocks(2, 4))
}

// roomy is a line whose lists have spare room.
func roomy() dead.Line {
	room := func(l []api.Ptr) []api.Ptr { return append(make([]api.Ptr, 0, 20), l...) }
	l := dead.Line{Base: 10, Snaps: make([]dead.Snap, 0, 20), Dead: room(blocks(400, 31, 30, 7))}
	return dead.Line{Base: 10, Dead: l.Dead, Snaps: append(l.Snaps,
		dead.Snap{Txg: 20, Dead: room(blocks(100, 10, 4))},
		dead.Snap{Txg: 30, Dead: room(blocks(200, 10, 20, 3))},
		dead.Snap{Txg: 40, Dead: room(blocks(300, 21, 20, 30))})}
}

// wipe overwrites all that a line's lists have, their spare room too.
func wipe(l dead.Line) {
	for i := range l.Snaps {
		list := l.Snaps[i].Dead
		fill(list[:cap(list)])
	}
	fill(l.Dead[:cap(l.Dead)])
	clear(l.Snaps[:cap(l.Snaps)])
}

// fill makes all of a list another block.
func fill(l []api.Ptr) {
	for i := range l {
		l[i] = born(999, 1)
	}
}

// P11.3: what is handed in isn't changed, its spare room neither; answers are new memory, and no two lists of one share any.
func TestMemory(t *testing.T) {
	calls := []func(dead.Line) (dead.Line, []api.Ptr){
		func(l dead.Line) (dead.Line, []api.Ptr) { r, _, _ := dead.Kill(l, born(1, 5)); return r, nil },
		func(l dead.Line) (dead.Line, []api.Ptr) { r, _, _ := dead.Kill(l, born(1, 50)); return r, nil },
		func(l dead.Line) (dead.Line, []api.Ptr) { r, _ := dead.Snapshot(l, 50); return r, nil },
		func(l dead.Line) (dead.Line, []api.Ptr) { r, free, _ := dead.Destroy(l, 0); return r, free },
		func(l dead.Line) (dead.Line, []api.Ptr) { r, free, _ := dead.Destroy(l, 1); return r, free },
		func(l dead.Line) (dead.Line, []api.Ptr) { r, free, _ := dead.Destroy(l, 2); return r, free },
		func(l dead.Line) (dead.Line, []api.Ptr) { dead.Check(l); return clone(l), nil },
	}
	for i, call := range calls {
		l := roomy()
		r, free := call(l)
		must, mustFree := clone(r), slices.Clone(free)
		if !same(l, roomy()) || !untouched(l) {
			t.Errorf("call %d changed what was handed in", i)
		}
		wipe(l)
		if !same(r, must) || !slices.Equal(free, mustFree) {
			t.Errorf("call %d answers what was handed in", i)
		}
		apart(t, i, r, free)
	}
}

// untouched: is all spare room of a line's lists as it was?
func untouched(l dead.Line) bool {
	isZero := func(p api.Ptr) bool { return p == (api.Ptr{}) }
	spare := slices.Clone(l.Dead[len(l.Dead):cap(l.Dead)])
	for _, s := range l.Snaps {
		spare = append(spare, s.Dead[len(s.Dead):cap(s.Dead)]...)
	}
	for _, s := range l.Snaps[len(l.Snaps):cap(l.Snaps)] {
		if s.Txg != 0 || s.Dead != nil {
			return false
		}
	}
	return !slices.ContainsFunc(spare, func(p api.Ptr) bool { return !isZero(p) })
}

// apart holds an answer's lists to share nothing: each is overwritten, with its spare room, and the others stay.
func apart(t *testing.T, i int, r dead.Line, free []api.Ptr) {
	t.Helper()
	lists := [][]api.Ptr{free, r.Dead}
	for _, s := range r.Snaps {
		lists = append(lists, s.Dead)
	}
	for j, l := range lists {
		var must [][]api.Ptr
		for _, m := range lists {
			must = append(must, slices.Clone(m))
		}
		fill(l[:cap(l)])
		for k, m := range lists {
			if k != j && !slices.Equal(m, must[k]) {
				t.Errorf("call %d: two lists of the answer share", i)
			}
		}
	}
}
