package pool_test

import (
	"fmt"
	"math/rand"
	"testing"

	"hoard/api"
	"hoard/step"
)

// fill fills a pool with files till there is no room for one more of this size; how many there are. It wants ErrSpace to be answered only of a pool that isn't roomy.
func (b *bed) fill(t *testing.T, set string, size int) int {
	t.Helper()
	for i := range 5000 {
		dir := fmt.Sprint("/", i/50)
		path := fmt.Sprint(dir, "/", i)
		if i%50 == 0 && b.noRoom(t, set, one(step.Mkdir, dir)) || b.noRoom(t, set, one(step.Create, path)) {
			return i
		}
		b.all(t, set, one(step.Open, path))
		no := b.noRoom(t, set, at(step.Write, 1, 0, 0, long(size, i)))
		b.all(t, set, at(step.Close, 1, 0, 0, ""))
		if no {
			return i
		}
	}
	t.Fatal("room without an end")
	return 0
}

// noRoom does a call, if there is room for it.
func (b *bed) noRoom(t *testing.T, set string, c step.Call) bool {
	t.Helper()
	roomy := b.roomy()
	r := b.Call(set, c)
	if r.Err == api.OK {
		return false
	}
	want(t, "a call", r.Err, api.ErrSpace)
	if roomy {
		n, all := b.Free()
		t.Fatalf("no room, with %d of %d cells", n, all)
	}
	return true
}

// packs receives streams, of ever fewer files, in what room is left: how many were refused for want of it. Nothing is changed then.
func (b *bed) packs(t *testing.T) int {
	t.Helper()
	o, n := lay(t, 16, 900, 40), 0
	for i := range 13 {
		o.writes(t, "main", fmt.Sprint("/", i), long(4000, i))
	}
	for i := range 10 {
		done(t, o.Snapshot("main@s"))
		s := o.sends(t, "", "main@s")
		is, free, roomy := b.view(t), b.free(), b.roomy()
		if e := b.Receive("", fmt.Sprint("r", i), s); e != api.OK {
			want(t, "Receive", e, api.ErrSpace)
			if n++; roomy || b.free() != free || b.view(t) != is {
				t.Fatal("what there was no room for changed something", roomy)
			}
		}
		b.cells(t)
		done(t, o.Destroy("main@s"))
		o.all(t, "main", one(step.Unlink, fmt.Sprint("/", i)))
	}
	return n
}

// ErrSpace: a pool that is filled answers it, when fewer than two thirds of its cells are free; nothing is changed then; files may be taken away still; and all is there behind a crash.
func TestNoRoom(t *testing.T) {
	t.Parallel()
	for i, x := range [][3]int{{5, 401, 300}, {5, 402, 4096}, {6, 440, 700}, {8, 420, 2000}, {16, 420, 3000}} {
		b := lay(t, x[0], x[1], 1+i)
		n := b.fill(t, "main", x[2])
		if b.roomy() {
			t.Fatal("no room, with", b.free())
		}
		is := b.view(t)
		for _, c := range []step.Call{one(step.Create, "/none"), one(step.Mkdir, "/none"), two(step.Link, "/0/0", "/none"), one(step.Create, "/0"), one(step.Create, "x")} {
			if r := b.Call("main", c); r.Err == api.ErrSpace && !same(r, step.Result{Err: api.ErrSpace, Ticket: r.Ticket}) {
				t.Fatal(r)
			}
			b.Call("main", one(step.Unlink, "/none"))
			b.Call("main", one(step.Rmdir, "/none"))
		}
		if b.view(t) != is {
			t.Fatal("what there was no room for changed something")
		}
		done(t, b.Fsync())
		b.r.Crash(nil)
		b.imports(t)
		if b.view(t) != is {
			t.Fatal("otherwise behind a crash")
		}
		if b.packs(t) == 0 {
			t.Fatal("there was room for all")
		}
		b.empties(t, n)
	}
}

// empties takes away all that fill, and what packed it, made, and wants the cells to be free then.
func (b *bed) empties(t *testing.T, n int) {
	t.Helper()
	names, _ := b.List()
	for _, name := range names {
		if name != "main" {
			want(t, "Destroy", b.Destroy(name), api.OK)
		}
	}
	for i := range n {
		b.all(t, "main", one(step.Unlink, fmt.Sprint("/", i/50, "/", i)))
	}
	done(t, b.Sync())
	b.cells(t)
	if free, all := b.Free(); all-free > 250 {
		t.Errorf("%d of %d cells are free of an empty pool", free, all)
	}
}

// ErrSpace: what is undone for want of room leaves descriptors, clients' calls and what wasn't made to last as they were.
func TestUndone(t *testing.T) {
	t.Parallel()
	b := lay(t, 5, 401, 1)
	b.writes(t, "main", "/f", "abc")
	done(t, b.Snapshot("main@a"), b.Clone("main@a", "c"))
	b.all(t, "c", one(step.Open, "/f"), at(step.Write, 1, 0, 0, "xyz"))
	b.all(t, "main@a", one(step.Open, "/f"))
	b.fill(t, "main", 900)
	b.all(t, "main", one(step.Open, "/f"), one(step.Unlink, "/f"))
	done(t, b.Begin("c", 3, at(step.Truncate, 1, 0, 1, "")))
	if n := b.packs(t); n == 0 {
		t.Fatal("there was room")
	}
	for range 3 {
		b.Step("c", 3)
	}
	if r, e := b.Result("c", 3); r.Err != api.OK || e != api.OK {
		t.Fatal(r, e)
	}
	b.does(t, "c", at(step.Read, 1, 0, 9, ""), step.Result{Data: "x"})
	b.does(t, "main@a", at(step.Read, 1, 0, 9, ""), step.Result{Data: "abc"})
	b.fails(t, "main", at(step.Read, 1, 0, 9, ""), api.ErrStale)
	done(t, b.Fsync())
	is := b.view(t)
	b.r.Crash(nil)
	b.imports(t)
	if b.view(t) != is {
		t.Fatal("otherwise behind a crash")
	}
}

// ErrSpace: in a pool that was filled, and of which most was taken away in any order, there is room again while two thirds of the cells are free.
func TestRoomAgain(t *testing.T) {
	t.Parallel()
	for seed := range 6 {
		rnd := rand.New(rand.NewSource(int64(seed)))
		b := lay(t, 5+seed%2, 401+seed, 1+seed)
		n := b.fill(t, "main", 100+400*(seed%3))
		for round := range 4 {
			gone := rnd.Perm(n)[:n*(2+round%2)/4]
			for _, i := range gone {
				b.Call("main", one(step.Unlink, fmt.Sprint("/", i/50, "/", i)))
			}
			for range 60 {
				i := anyOf(rnd, gone)
				path := fmt.Sprint("/", i/50, "/", i)
				b.Call("main", one(step.Create, path))
				o := b.Call("main", one(step.Open, path))
				if o.Err == api.OK {
					b.noRoom(t, "main", at(step.Write, o.N, 0, 0, long(rnd.Intn(3000), i)))
					b.all(t, "main", at(step.Close, o.N, 0, 0, ""))
				}
				if rnd.Intn(20) == 0 {
					done(t, b.Sync())
					b.cells(t)
				}
			}
		}
		is := b.view(t)
		done(t, b.Fsync())
		b.r.Crash(nil)
		b.imports(t)
		if b.view(t) != is {
			t.Fatal("otherwise behind a crash")
		}
	}
}
