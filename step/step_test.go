package step_test

import (
	"fmt"
	"math"
	"math/rand"
	"strings"
	"sync"
	"testing"

	"hoard/api"
	"hoard/step"
	"hoard/world"
)

// wild are numbers at the ends of their type, and some about the limits.
var wild = []int{math.MinInt, math.MinInt + 1, -1, 0, 1, 2, 7, 8, 9, 4096, 4097, math.MaxInt - 1, math.MaxInt}

// P15.1: what a new machine is.
func TestNew(t *testing.T) {
	if m, e := step.New(nil); m != nil || e != api.ErrArg {
		t.Error(m, e)
	}
	b := lay(t)
	if !b.Idle() || b.Tickets() != 0 || len(b.Deeds()) != 0 {
		t.Error(b.Idle(), b.Tickets())
	}
	for client := range 8 {
		b.noResult(t, client, api.ErrMiss)
	}
	b.all(t, path1(step.Create, "/f"), path1(step.Open, "/f"))
	b.begins(t, 0, path1(step.Stat, "/f"))
	other := b.anew(t) // has descriptors, clients, tickets and deeds of its own
	if !other.Idle() || other.Tickets() != 0 || len(other.Deeds()) != 0 {
		t.Error("a new machine isn't new")
	}
	for d := range 10 {
		other.fails(t, at(step.Close, d, 0, 0, ""), api.ErrStale)
	}
	other.does(t, path1(step.Stat, "/f"), step.Result{Info: world.Info{Ino: 2, Kind: 1, Links: 1}})
	b.all(t, at(step.Close, 1, 0, 0, ""))
}

// P15.1: what each kind of call does and answers; each takes the next ticket.
func TestKinds(t *testing.T) {
	b := lay(t)
	ok := step.Result{}
	for _, c := range []struct {
		call step.Call
		must step.Result
	}{
		{path1(step.Mkdir, "/d"), step.Result{N: 2}},
		{path1(step.Create, "/d/f"), step.Result{N: 3}},
		{path1(step.Create, "/d/f"), step.Result{Err: api.ErrThere}},
		{path1(step.Create, "/x/f"), step.Result{Err: api.ErrMiss}},
		{path1(step.Mkdir, "/d/f/g"), step.Result{Err: api.ErrFile}},
		{path1(step.Mkdir, "/"), step.Result{Err: api.ErrName}},
		{path1(step.Mkdir, ""), step.Result{Err: api.ErrName}},
		{path1(step.Open, "/d/f"), step.Result{N: 1}},
		{at(step.Write, 1, 2, 0, "xy"), ok},
		{at(step.Write, 1, 9, 0, ""), ok},
		{at(step.Read, 1, 0, 9, ""), step.Result{Data: "\x00\x00xy"}},
		{at(step.Read, 1, 3, 9, ""), step.Result{Data: "y"}},
		{at(step.Read, 1, 1, 2, ""), step.Result{Data: "\x00x"}},
		{at(step.Read, 1, 4, 1, ""), ok},
		{at(step.Read, 1, math.MaxInt, math.MaxInt, ""), ok},
		{at(step.Truncate, 1, 0, 3, ""), ok},
		{at(step.Read, 1, 0, 9, ""), step.Result{Data: "\x00\x00x"}},
		{path2(step.Link, "/d/f", "/g"), ok},
		{path1(step.Stat, "/g"), step.Result{Info: world.Info{Ino: 3, Kind: 1, Size: 3, Links: 2}}},
		{path2(step.Link, "/d", "/e"), step.Result{Err: api.ErrDir}},
		{path2(step.Rename, "/d", "/d/d"), step.Result{Err: api.ErrLoop}},
		{path2(step.Rename, "/d", "/e"), ok},
		{path1(step.List, "/"), step.Result{Names: []string{"e", "g"}}},
		{path1(step.List, "/e"), step.Result{Names: []string{"f"}}},
		{path1(step.List, "/e/f"), step.Result{Err: api.ErrFile}},
		{path1(step.Rmdir, "/e"), step.Result{Err: api.ErrFull}},
		{path1(step.Unlink, "/e"), step.Result{Err: api.ErrDir}},
		{path1(step.Unlink, "/e/f"), ok},
		{path1(step.List, "/e"), ok},
		{path1(step.Rmdir, "/g"), step.Result{Err: api.ErrFile}},
		{path1(step.Rmdir, "/e"), ok},
		{path1(step.Stat, "/e"), step.Result{Err: api.ErrMiss}},
		{path1(step.Stat, "/"), step.Result{Info: world.Info{Ino: 1, Kind: 2, Links: 1}}},
		{at(step.Read, 1, 2, 1, ""), step.Result{Data: "x"}},
		{at(step.Close, 1, 0, 0, ""), ok},
		{at(step.Close, 1, 0, 0, ""), step.Result{Err: api.ErrStale}},
	} {
		b.does(t, c.call, c.must)
	}
}

// P15.1: fields that a kind doesn't name are as nothing.
func TestOtherFields(t *testing.T) {
	b, p := lay(t), newPlain(t)
	b.all(t, path1(step.Create, "/f"), path1(step.Create, "/g"), path1(step.Open, "/g"))
	p.do(path1(step.Create, "/f"))
	p.do(path1(step.Create, "/g"))
	p.do(path1(step.Open, "/g"))
	for kind := step.Create; kind <= step.Stat; kind++ {
		c := step.Call{Kind: kind, Path: "/f", To: "/h", D: 1, Off: 2, N: 3, Data: "abc"}
		must, _ := p.do(c)
		b.does(t, c, must)
		c = step.Call{Kind: kind, Path: "none", To: "none", D: -1, Off: -1, N: -1, Data: strings.Repeat("x", 5000)}
		must, _ = p.do(c)
		b.does(t, c, must)
	}
}

// P15.1: there are thirteen kinds; a call of another one takes its ticket too.
func TestOtherKinds(t *testing.T) {
	b := lay(t)
	for _, kind := range []int{0, -1, 14, 15, 99, math.MinInt, math.MaxInt} {
		b.fails(t, step.Call{Kind: kind, Path: "/f", To: "/g", D: 1}, api.ErrArg)
	}
	b.told(t)
}

// P15.1: Open takes the least descriptor that isn't open; its errors, in their order.
func TestOpen(t *testing.T) {
	b := lay(t)
	b.all(t, path1(step.Create, "/f"), path1(step.Create, "/g"), path1(step.Mkdir, "/d"))
	refused := func() {
		t.Helper()
		for path, must := range map[string]api.Errno{
			"": api.ErrName, "f": api.ErrName, "/f/": api.ErrName, "/x": api.ErrMiss, "/x/f": api.ErrMiss,
			"/f/g": api.ErrFile, "/d": api.ErrDir, "/": api.ErrDir,
		} {
			b.fails(t, path1(step.Open, path), must)
		}
	}
	refused()
	for d := 1; d <= 8; d++ { // one file may be open several times
		b.does(t, path1(step.Open, []string{"/f", "/g"}[d/5]), step.Result{N: d})
	}
	refused()
	b.fails(t, path1(step.Open, "/f"), api.ErrBig)
	b.all(t, at(step.Close, 6, 0, 0, ""), at(step.Close, 3, 0, 0, ""), at(step.Close, 8, 0, 0, ""))
	for _, d := range []int{3, 6, 8} {
		b.does(t, path1(step.Open, "/f"), step.Result{N: d})
	}
	b.fails(t, path1(step.Open, "/f"), api.ErrBig)
	b.all(t, at(step.Write, 8, 0, 0, "of f"), at(step.Write, 7, 0, 0, "of g"))
	for d := 1; d <= 8; d++ {
		b.does(t, at(step.Read, d, 0, 9, ""), step.Result{Data: []string{"of f", "of g"}[map[int]int{5: 1, 7: 1}[d]]})
	}
}

// P15.1: a descriptor that isn't open, and numbers that are none.
func TestClosed(t *testing.T) {
	b := lay(t)
	b.all(t, path1(step.Create, "/f"))
	for _, d := range wild {
		for _, kind := range []int{step.Close, step.Read, step.Write, step.Truncate} {
			b.fails(t, at(kind, d, 0, 1, "x"), api.ErrStale)
			b.fails(t, at(kind, d, -1, -1, strings.Repeat("x", 5000)), api.ErrStale) // ahead of what the world refuses
		}
	}
	b.does(t, path1(step.Open, "/f"), step.Result{N: 1})
	for _, d := range wild {
		if d != 1 {
			b.fails(t, at(step.Read, d, 0, 1, ""), api.ErrStale)
		}
	}
	b.does(t, at(step.Close, 1, 0, 0, ""), step.Result{})
	b.fails(t, at(step.Write, 1, 0, 0, "x"), api.ErrStale)
}

// P15.1: a descriptor stands for a number: whatever names the file has, till it is gone.
func TestGone(t *testing.T) {
	b := lay(t)
	b.all(t, path1(step.Create, "/f"), path1(step.Create, "/g"), path1(step.Open, "/f"), path1(step.Open, "/g"), path1(step.Open, "/f"))
	b.all(t, path2(step.Link, "/f", "/h"), path1(step.Unlink, "/f"), path2(step.Rename, "/h", "/i"), at(step.Write, 1, 0, 0, "abc"))
	b.does(t, at(step.Read, 3, 0, 9, ""), step.Result{Data: "abc"})
	b.all(t, path1(step.Unlink, "/i"), path1(step.Create, "/f"), path1(step.Create, "/i")) // others of those names
	for _, d := range []int{1, 3} {
		b.fails(t, at(step.Read, d, 0, 9, ""), api.ErrStale)
		b.fails(t, at(step.Write, d, 0, 0, "x"), api.ErrStale)
		b.fails(t, at(step.Write, d, 0, 0, ""), api.ErrStale)
		b.fails(t, at(step.Truncate, d, 0, 0, ""), api.ErrStale)
		b.fails(t, at(step.Read, d, -1, -1, ""), api.ErrStale)
		b.fails(t, at(step.Write, d, 4096, 0, "x"), api.ErrStale)
		b.fails(t, at(step.Truncate, d, 0, -1, ""), api.ErrStale)
	}
	b.all(t, path2(step.Rename, "/i", "/g")) // takes the name of what descriptor 2 stands for
	b.fails(t, at(step.Read, 2, 0, 9, ""), api.ErrStale)
	b.does(t, path1(step.Open, "/f"), step.Result{N: 4}) // the others are open still
	b.all(t, at(step.Close, 2, 0, 0, ""), at(step.Close, 1, 0, 0, ""))
	b.fails(t, at(step.Close, 2, 0, 0, ""), api.ErrStale)
	b.does(t, path1(step.Open, "/g"), step.Result{N: 1})
	b.does(t, at(step.Read, 1, 0, 9, ""), step.Result{})
}

// P15.1: what the world refuses of a file, at the edges too.
func TestFile(t *testing.T) {
	b := lay(t)
	b.all(t, path1(step.Create, "/f"), path1(step.Open, "/f"))
	long := strings.Repeat("x", 4096)
	for _, c := range []struct {
		call step.Call
		must api.Errno
	}{
		{at(step.Read, 1, -1, 0, ""), api.ErrArg}, {at(step.Read, 1, 0, -1, ""), api.ErrArg},
		{at(step.Read, 1, math.MinInt, math.MinInt, ""), api.ErrArg},
		{at(step.Write, 1, -1, 0, "x"), api.ErrArg}, {at(step.Write, 1, math.MinInt, 0, ""), api.ErrArg},
		{at(step.Write, 1, 0, 0, long+"x"), api.ErrBig}, {at(step.Write, 1, 4096, 0, "x"), api.ErrBig},
		{at(step.Write, 1, math.MaxInt, 0, long), api.ErrBig}, {at(step.Write, 1, 4097, 0, ""), api.ErrBig},
		{at(step.Truncate, 1, 0, -1, ""), api.ErrArg}, {at(step.Truncate, 1, 0, 4097, ""), api.ErrBig},
		{at(step.Truncate, 1, 0, math.MinInt, ""), api.ErrArg}, {at(step.Truncate, 1, 0, math.MaxInt, ""), api.ErrBig},
	} {
		b.fails(t, c.call, c.must)
	}
	b.all(t, at(step.Write, 1, 0, 0, long))
	b.does(t, at(step.Read, 1, 0, math.MaxInt, ""), step.Result{Data: long})
	b.all(t, at(step.Truncate, 1, 0, 1, ""), at(step.Write, 1, 4095, 0, "z"))
	b.does(t, at(step.Read, 1, 0, 4096, ""), step.Result{Data: "x" + strings.Repeat("\x00", 4094) + "z"})
}

// P15.1, P2: calls one by one are those of a plain world, with plain descriptors.
func TestPlain(t *testing.T) {
	for seed := range 30 {
		rnd := rand.New(rand.NewSource(int64(seed)))
		b, p := lay(t), newPlain(t)
		for range 250 {
			c := anyCall(rnd)
			must, _ := p.do(c)
			b.does(t, c, must)
		}
		if got, must := b.pairs(t), p.pairs(t); fmt.Sprint(got) != fmt.Sprint(must) {
			t.Fatal("another world")
		}
	}
}

// P15.1: what the tree answers is answered too: it takes a ticket, and changes nothing.
func TestDown(t *testing.T) {
	b := lay(t)
	b.all(t, path1(step.Create, "/f"), path1(step.Open, "/f"), at(step.Write, 1, 0, 0, "abc"))
	b.Deeds()
	for kind := step.Create; kind <= step.Stat; kind++ {
		if kind == step.Close {
			continue // asks for nothing but the descriptor
		}
		b.forget(t)
		b.r.Arm(0)
		b.r.Flush()
		c := step.Call{Kind: kind, Path: "/f", To: "/g", D: 1, Off: 0, N: 2, Data: "x"}
		b.does(t, c, step.Result{Err: api.ErrDown})
		b.begins(t, 3, c)
		b.steps(t, 3, 1)
		b.steps(t, 3, 2)
		b.steps(t, 3, 3)
		b.comes(t, 3, step.Result{Err: api.ErrDown, Ticket: b.Tickets()})
		b.r.Crash(nil)
		if b.x.Dirty() {
			t.Error(kind, "changed something")
		}
	}
	b.told(t)
	b.does(t, at(step.Read, 1, 0, 9, ""), step.Result{Data: "abc"})
	b.does(t, path1(step.Open, "/f"), step.Result{N: 2})
}

// P6: so it is where more than three drives are lost; what is told is right.
func TestLost(t *testing.T) {
	b := lay(t)
	b.all(t, path1(step.Create, "/f"), path1(step.Open, "/f"), at(step.Write, 1, 0, 0, "abc"))
	b.Deeds()
	b.forget(t)
	for drive := range 3 {
		want(t, "Lose", b.r.Lose(drive), api.OK)
	}
	b.does(t, at(step.Read, 1, 0, 9, ""), step.Result{Data: "abc"})
	b.forget(t)
	want(t, "Lose", b.r.Lose(3), api.OK)
	for kind := step.Create; kind <= step.Stat; kind++ {
		if kind != step.Close {
			b.does(t, step.Call{Kind: kind, Path: "/f", To: "/g", D: 1, Data: "x"}, step.Result{Err: api.ErrIO})
		}
	}
	b.told(t)
	b.does(t, at(step.Close, 1, 0, 0, ""), step.Result{})
}

// P1, P15.1: no call of no machine panics, or answers anything but as said; nor of one that New didn't make.
func TestNoMachine(t *testing.T) {
	for _, m := range []*step.Machine{nil, new(step.Machine)} {
		for _, n := range wild {
			c := step.Call{Kind: n, Path: "/f", D: n, Off: n, N: n}
			if r := m.Do(c); !same(r, step.Result{Err: api.ErrArg}) {
				t.Error("Do", r)
			}
			want(t, "Begin", m.Begin(n, c), api.ErrArg)
			if k, e := m.Step(n); k != 0 || e != api.ErrArg {
				t.Error("Step", k, e)
			}
			if r, e := m.Result(n); !same(r, step.Result{}) || e != api.ErrArg {
				t.Error("Result", r, e)
			}
		}
		if m.Tickets() != 0 || len(m.Deeds()) != 0 || !m.Idle() {
			t.Error(m.Tickets(), m.Deeds(), m.Idle())
		}
	}
}

// P1: calls with whatever fields are answered, by a world that is none too.
func TestWild(t *testing.T) {
	b := lay(t)
	b.all(t, path1(step.Create, "/f"), path1(step.Open, "/f"))
	none, e := step.New(new(world.World))
	want(t, "New", e, api.OK)
	for _, kind := range append([]int{3, 4, 5, 6, 10, 11, 12, 13, 14}, wild...) {
		for _, d := range wild {
			for _, n := range wild {
				for _, path := range []string{"", "/", "/f", strings.Repeat("/f", 9), strings.Repeat("\xff", 70000)} {
					c := step.Call{Kind: kind, Path: path, To: path, D: d, Off: n, N: n, Data: path}
					b.Do(c)
					none.Do(c)
				}
			}
		}
	}
	if b.Tickets() != 2+none.Tickets() {
		t.Error(b.Tickets(), none.Tickets())
	}
}

// P15.4: answers are new memory.
func TestAnswers(t *testing.T) {
	b := lay(t)
	b.all(t, path1(step.Create, "/a"), path1(step.Create, "/b"))
	must := step.Result{Names: []string{"a", "b"}}
	for range 2 {
		b.begins(t, 0, path1(step.List, "/"))
		b.steps(t, 0, 1)
		b.steps(t, 0, 2)
		r := b.Do(path1(step.List, "/"))
		clear(r.Names[:cap(r.Names)])
		b.steps(t, 0, 3)
		must.Ticket = b.Tickets() - 1
		r, e := b.Result(0)
		if e != api.OK || !same(r, must) {
			t.Error(r, e)
		}
		clear(r.Names[:cap(r.Names)])
	}
	l := b.Deeds()
	b.all(t, path1(step.Unlink, "/a"), path1(step.Unlink, "/b"))
	if len(l) != 2 || l[0].Call != path1(step.Create, "/a") || l[1].Call != path1(step.Create, "/b") {
		t.Error("later deeds are written over those that were told:", l)
	}
	clear(l[:cap(l)])
	b.told(t, step.Deed{Call: path1(step.Unlink, "/a")}, step.Deed{Call: path1(step.Unlink, "/b")})
}

// P15.1: each call that shares the lock has a ticket of its own, though several are done at once, and tickets are told meanwhile.
func TestAtOnce(t *testing.T) {
	const askers, turns = 8, 60
	b := lay(t)
	b.all(t, path1(step.Create, "/f"), path1(step.Open, "/f"), at(step.Write, 1, 0, 0, "abc"))
	first := b.Tickets()
	tickets := [askers][turns]int{}
	var all sync.WaitGroup
	for who := range askers {
		all.Go(func() {
			for turn := range turns {
				was := b.Tickets()
				r := b.Do([]step.Call{path1(step.List, "/"), path1(step.Stat, "/f"), at(step.Read, 1, 0, 9, ""), {}}[turn%4])
				if r.Ticket <= was || r.Ticket > b.Tickets() {
					t.Error(was, r.Ticket, b.Tickets())
				}
				tickets[who][turn] = r.Ticket
			}
		})
	}
	all.Wait()
	met := map[int]int{}
	for _, l := range tickets {
		for _, n := range l {
			met[n]++
		}
	}
	for n := first + 1; n <= first+askers*turns; n++ {
		if met[n] != 1 {
			t.Fatalf("ticket %d was given %d times", n, met[n])
		}
	}
	if b.Tickets() != first+askers*turns {
		t.Error(b.Tickets())
	}
}
