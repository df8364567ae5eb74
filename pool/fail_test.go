package pool_test

import (
	"fmt"
	"math/rand"
	"slices"
	"testing"

	"hoard/api"
	"hoard/pool"
	"hoard/step"
)

// P18.1, P4: whichever three drives are lost, replaced or rotten, ahead of whichever line of a script: all answers are those that there are without that.
func TestDrivesAlong(t *testing.T) {
	t.Parallel()
	l := script()
	_, _, must := run(lay(t, 6, 450, 12), l)
	rnd := rand.New(rand.NewSource(181))
	for at := range l {
		for way := range 9 {
			b := lay(t, 6, 450, 12)
			_, _, told := run(b, l[:at])
			b.fail(rnd.Perm(6)[:3], way)
			_, _, more := run(b, l[at:])
			if told = append(told, more...); !slices.Equal(told, must) {
				t.Fatalf("%d, %d: other answers", at, way)
			}
		}
	}
}

// P18.1, P18.3: drives that fail one by one along a script, are replaced, and behind a scrub and a Sync others.
func TestDrivesInTurn(t *testing.T) {
	t.Parallel()
	l := script()
	_, _, must := run(lay(t, 7, 450, 12), l)
	for seed := range 40 {
		rnd := rand.New(rand.NewSource(int64(seed)))
		b := lay(t, 7, 450, 12)
		var told []string
		bad := map[int]bool{}
		for _, x := range l {
			switch drive := rnd.Intn(7); {
			case len(bad) == 3:
				for drive := range bad {
					if b.r.Gone(drive) {
						b.r.Replace(drive)
					}
				}
				b.scrubs(t)
				done(t, b.Sync())
				bad = map[int]bool{}
			case rnd.Intn(3) == 0:
				bad[drive] = true
				b.r.Lose(drive)
			case rnd.Intn(3) == 0:
				bad[drive] = true
				b.rots(drive, rnd.Intn(5000))
			}
			e, is := x.do(b)
			told = append(told, fmt.Sprint(e, is))
		}
		if !slices.Equal(told, must) {
			t.Fatalf("%d: other answers", seed)
		}
	}
}

// P18.3: whichever three drives failed, and however: behind new ones in their place, a scrub to its end, and a Sync, whichever three others may fail.
func TestThreeOthers(t *testing.T) {
	t.Parallel()
	turn := 0
	for _, first := range threes(6) {
		for _, then := range threes(6) {
			b := lay(t, 6, 450, 40)
			b.writes(t, "main", "/f", long(2500, 1))
			done(t, b.Snapshot("main@a"))
			b.writes(t, "main", "/g", long(600, 2))
			done(t, b.Fsync())
			is := b.view(t)
			turn++
			b.fail(first, turn)
			b.writes(t, "main", "/h", "h")
			for drive := range 6 {
				if b.r.Gone(drive) {
					b.r.Replace(drive)
				}
			}
			if turn%3 == 0 {
				b.r.Crash(nil)
				b.imports(t)
				b.misses(t, "main", "/h")
				b.writes(t, "main", "/h", "h")
			}
			b.scrubs(t)
			done(t, b.Sync())
			b.fail(then, turn/3)
			if turn%2 == 0 {
				b.r.Crash(nil)
				b.imports(t)
			}
			b.reads(t, "main", "/h", "h")
			b.all(t, "main", one(step.Unlink, "/h"))
			if b.view(t) != is {
				t.Fatal(first, then, "other answers")
			}
		}
	}
}

// threes are the sets of three of n drives.
func threes(n int) [][]int {
	var l [][]int
	for i := range n {
		for j := range i {
			for k := range j {
				l = append(l, []int{k, j, i})
			}
		}
	}
	return l
}

// ruin makes any drives fail, however many.
func (g *game) ruin() {
	switch drive := g.rnd.Intn(g.r.Drives()); g.rnd.Intn(4) {
	case 0:
		g.r.Lose(drive)
	case 1:
		g.r.Replace(drive)
	default:
		for range g.rnd.Intn(2000) {
			g.r.Rot(drive, g.rnd.Intn(g.r.Sectors()), g.rnd.Intn(1<<20))
		}
	}
}

// P18.5, P6: however many drives fail, and however: what a pool that is open answers is right, or ErrIO; what answers that has changed nothing.
func TestRuin(t *testing.T) {
	t.Parallel()
	errors, rights := 0, 0
	for seed := range 40 {
		g := newGame(t, seed, 5+seed%12, 1300, 20)
		g.stock(t)
		for i := range 80 {
			if i > 20 && g.rnd.Intn(9) == 0 {
				g.ruin()
			}
			switch n := g.rnd.Intn(20); {
			case n < 14:
				set, c := g.anySet(), g.anyCall()
				if g.rnd.Intn(2) == 0 {
					c.Path = fmt.Sprint("/f", g.rnd.Intn(25))
				}
				r := g.Call(set, c)
				if r.Err == api.ErrIO {
					errors++
					if r.Ticket > 0 {
						g.o.call(set, step.Call{})
					}
					continue
				}
				rights++
				if must := g.o.call(set, c); !same(r, must) {
					t.Fatalf("Call(%q, %s): %s, not %s", set, brief(c), brief(r), brief(must))
				}
			case n < 16:
				if e := g.Sync(); e != api.OK {
					want(t, "Sync", e, api.ErrIO)
				}
			case n < 18:
				if e := g.Fsync(); e != api.OK {
					want(t, "Fsync", e, api.ErrIO)
				}
			default:
				g.changeOrNot(t)
			}
		}
	}
	if errors == 0 || rights == 0 {
		t.Error(errors, rights)
	}
}

// stock makes more files than are remembered.
func (g *game) stock(t *testing.T) {
	t.Helper()
	for i := range 25 {
		path := fmt.Sprint("/f", i)
		for _, c := range []step.Call{one(step.Create, path), one(step.Open, path), at(step.Write, 1, 0, 0, long(2000, i)), at(step.Close, 1, 0, 0, "")} {
			if r, must := g.Call("main", c), g.o.call("main", c); r.Err != api.OK || !same(r, must) {
				t.Fatal(brief(c), brief(r), brief(must))
			}
		}
	}
	done(t, g.Snapshot("main@z"), g.o.snapshot(t, "main@z"))
}

// changeOrNot is a call on datasets, which answers as it must, or ErrIO.
func (g *game) changeOrNot(t *testing.T) {
	t.Helper()
	name, snap, set := anyOf(g.rnd, []string{"a", "b"}), anyOf(g.rnd, []string{"main", "a"})+"@"+anyOf(g.rnd, []string{"x", "y"}), g.anySet()
	var e api.Errno
	var do func() api.Errno
	switch g.rnd.Intn(4) {
	case 0:
		e, do = g.Snapshot(snap), func() api.Errno { return g.o.snapshot(t, snap) }
	case 1:
		e, do = g.Clone(set, name), func() api.Errno { return g.o.clone(t, set, name) }
	case 2:
		e, do = g.Destroy(set), func() api.Errno { return g.o.destroy(set) }
	default:
		b, f := g.Send("", set)
		must, h := g.o.send(t, "", set)
		if f != api.ErrIO && (f != h || !slices.Equal(b, must)) {
			t.Fatal("Send", f, h)
		}
		if f != api.OK {
			return
		}
		e, do = g.Receive("", name, b), func() api.Errno { return g.o.receive(t, "", name, "", set) }
	}
	if e == api.ErrIO {
		return
	}
	want(t, "a call on datasets", e, do())
}

// P18.5, ErrIO: with four drives lost an open pool still answers what it remembers, and a transaction is refused; the pool isn't others by that, and goes on when the drives are there.
func TestFourLost(t *testing.T) {
	b := lay(t, 16, 500, 40)
	b.writes(t, "main", "/f", "abc")
	done(t, b.Snapshot("main@a"))
	b.all(t, "main", one(step.Open, "/f"), at(step.Write, 1, 0, 0, "xyz"))
	for drive := range 4 {
		b.r.Lose(12 + drive)
	}
	for _, e := range []api.Errno{b.Sync(), b.Snapshot("main@b"), b.Clone("main@a", "c"), b.Destroy("main@a"), b.Receive("", "d", b.sends(t, "", "main@a"))} {
		want(t, "with four drives lost", e, api.ErrIO)
	}
	b.lists(t, "main", "main@a")
	b.does(t, "main", at(step.Read, 1, 0, 9, ""), step.Result{Data: "xyz"})
	done(t, b.Fsync())
	b.r.Replace(15)
	done(t, b.Sync())
	b.does(t, "main", at(step.Read, 1, 0, 9, ""), step.Result{Data: "xyz"})
	b.imports(t)
	b.reads(t, "main", "/f", "xyz")
	b.reads(t, "main@a", "/f", "abc")
	for drive := range 16 {
		b.r.Lose(drive)
	}
	for _, e := range []api.Errno{b.Sync(), b.Snapshot("main@b")} {
		want(t, "with all drives lost", e, api.ErrIO)
	}
	b.all(t, "main", one(step.Create, "/g"))
	want(t, "Fsync", b.Fsync(), api.ErrIO)
	if p, e := pool.Import(b.r, 40); p != nil || e != api.ErrMiss {
		t.Error(p, e)
	}
}

// P18.1: what can't be read for a while, and can then, is there as it was, with all that was done since the last transaction.
func TestBackFromRuin(t *testing.T) {
	b := lay(t, 16, 500, 40)
	b.writes(t, "main", "/f", long(4000, 1))
	for i := range 20 {
		b.writes(t, "main", fmt.Sprint("/", i), long(4000, i)) // more than is remembered
	}
	done(t, b.Snapshot("main@a"), b.Clone("main@a", "c"))
	b.all(t, "main", one(step.Open, "/f"), one(step.Create, "/g"))
	turn := func() {
		for drive := range 16 {
			for at := 8 + 40; at < 500; at++ {
				b.r.Rot(drive, at, 9)
			}
		}
	}
	b.all(t, "main", at(step.Truncate, 1, 0, 10, ""))
	b.looks(t, "main@a")
	for _, do := range []func() api.Errno{b.Sync, func() api.Errno { return b.Destroy("c") }, func() api.Errno { return b.Snapshot("main@b") }} {
		turn()
		want(t, "what can't be done", do(), api.ErrIO)
		want(t, "Stat", b.Call("main", one(step.Stat, "/g")).Err, api.ErrIO)
		want(t, "Fsync", b.Fsync(), api.ErrIO)
		b.Free()
		turn()
		b.looks(t, "main@a")
	}
	b.lists(t, "c", "main", "main@a")
	b.does(t, "main", at(step.Read, 1, 0, 99, ""), step.Result{Data: long(4000, 1)[:10]})
	b.reads(t, "main", "/g", "")
	b.reads(t, "c", "/f", long(4000, 1))
	done(t, b.Sync())
	b.imports(t)
	b.reads(t, "main", "/f", long(4000, 1)[:10])
	b.reads(t, "main", "/g", "")
	b.cells(t)
}
