package pool_test

import (
	"fmt"
	"strings"
	"testing"

	"hoard/api"
	"hoard/label"
	"hoard/step"
)

// noSuch are names, and what calls on datasets and snapshots answer of them: those that are none, and those that aren't there.
func noSuch() map[string]api.Errno {
	l := map[string]api.Errno{}
	for _, name := range names {
		l[name] = api.ErrName
	}
	delete(l, "main")
	delete(l, "main@a")
	delete(l, "c")
	l["no"], l["no@a"], l["main@no"] = api.ErrMiss, api.ErrMiss, api.ErrMiss
	return l
}

// P18.1: the names that calls are refused for.
func TestCallNames(t *testing.T) {
	b := lay(t, 5, 500, 40)
	want(t, "Snapshot", b.Snapshot("main@a"), api.OK)
	for name, must := range noSuch() {
		for kind := -1; kind < 16; kind++ {
			b.fails(t, name, step.Call{Kind: kind, Path: "/"}, must)
		}
		if strings.Contains(name, "@") {
			must = api.ErrName
		}
		b.noClient(t, name, must)
	}
	b.noClient(t, "main@a", api.ErrName)
}

// noClient wants no client to have calls on what has a name.
func (b *bed) noClient(t *testing.T, name string, must api.Errno) {
	t.Helper()
	for _, n := range wild {
		want(t, "Begin", b.Begin(name, n, one(step.Stat, "/")), must)
		if k, e := b.Step(name, n); k != 0 || e != must {
			t.Fatalf("Step(%q): %d, %d, not %d", name, k, e, must)
		}
		if r, e := b.Result(name, n); !same(r, step.Result{}) || e != must {
			t.Fatalf("Result(%q): %v, %d, not %d", name, r, e, must)
		}
	}
}

// P18.1: a snapshot is read only: calls that would change it are refused, whatever they ask for, and take no ticket.
func TestSnapshotCalls(t *testing.T) {
	b := lay(t, 5, 500, 40)
	b.writes(t, "main", "/f", "abc")
	b.all(t, "main", one(step.Mkdir, "/d"))
	want(t, "Snapshot", b.Snapshot("main@a"), api.OK)
	is := b.looks(t, "main@a")
	ticket := b.Call("main@a", step.Call{}).Ticket
	for kind := -1; kind < 16; kind++ {
		for _, path := range []string{"/f", "/d", "/n", "x"} {
			c := step.Call{Kind: kind, Path: path, To: "/t", D: 1, N: 2, Data: "x"}
			r := b.Call("main@a", c)
			if changes(kind) {
				if !same(r, step.Result{Err: api.ErrBusy}) {
					t.Fatal(c, r)
				}
				continue
			}
			if ticket++; r.Ticket != ticket || r.Err == api.ErrBusy || kind < 1 && r.Err != api.ErrArg || kind > 13 && r.Err != api.ErrArg {
				t.Fatal(c, r)
			}
		}
	}
	if b.looks(t, "main@a") != is {
		t.Error("a snapshot that changes")
	}
	b.all(t, "main@a", one(step.Open, "/f"), one(step.List, "/d"), one(step.Stat, "/"), at(step.Read, 1, 0, 1, ""), at(step.Close, 1, 0, 0, ""))
}

// P18.1: descriptors are in memory: one set of them for each dataset and snapshot, none behind an Import, none of a dataset that was destroyed.
func TestDescriptors(t *testing.T) {
	b := lay(t, 5, 500, 40)
	b.writes(t, "main", "/f", "abc")
	done(t, b.Snapshot("main@a"), b.Clone("main@a", "c"))
	for _, set := range []string{"main", "main@a", "c"} {
		b.fails(t, set, at(step.Read, 1, 0, 1, ""), api.ErrStale)
		for d := 1; d <= 8; d++ {
			b.does(t, set, one(step.Open, "/f"), step.Result{N: d})
		}
		b.fails(t, set, one(step.Open, "/f"), api.ErrBig)
	}
	b.all(t, "c", at(step.Close, 3, 0, 0, ""))
	b.all(t, "main", at(step.Write, 3, 0, 0, "xyz"))
	for range 2 {
		done(t, b.Fsync(), b.Sync(), b.Snapshot("main@b"), b.Destroy("main@b"))
		b.does(t, "main", at(step.Read, 3, 0, 9, ""), step.Result{Data: "xyz"})
		b.does(t, "main@a", at(step.Read, 3, 0, 9, ""), step.Result{Data: "abc"})
		b.fails(t, "c", at(step.Read, 3, 0, 9, ""), api.ErrStale)
		b.does(t, "c", at(step.Read, 4, 0, 9, ""), step.Result{Data: "abc"})
	}
	done(t, b.Destroy("c"), b.Clone("main@a", "c"))
	b.does(t, "c", one(step.Open, "/f"), step.Result{N: 1})
	b.imports(t)
	for _, set := range []string{"main", "main@a", "c"} {
		for d := 1; d <= 8; d++ {
			b.fails(t, set, at(step.Read, d, 0, 1, ""), api.ErrStale)
		}
		b.does(t, set, one(step.Open, "/f"), step.Result{N: 1})
	}
}

// P2: clients' calls, step by step, on two datasets; their answers; who must wait; and what may not be done meanwhile.
func TestClients(t *testing.T) {
	b := lay(t, 5, 500, 40)
	done(t, b.Snapshot("main@a"), b.Clone("main@a", "c"))
	begins := func(set string, n int, c step.Call) { want(t, "Begin", b.Begin(set, n, c), api.OK) }
	steps := func(set string, n, must int) {
		if k, e := b.Step(set, n); k != must || e != api.OK {
			t.Fatalf("Step(%q, %d): %d, %d, not %d", set, n, k, e, must)
		}
	}
	comes := func(set string, n int, must step.Result) {
		if r, e := b.Result(set, n); !same(r, must) || e != api.OK {
			t.Fatalf("Result(%q, %d): %v, %d, not %v", set, n, r, e, must)
		}
	}
	begins("main", 0, one(step.Create, "/f"))
	begins("main", 7, one(step.Stat, "/f"))
	begins("c", 0, one(step.Mkdir, "/d"))
	want(t, "Begin", b.Begin("main", 0, one(step.Stat, "/")), api.ErrBusy)
	want(t, "Begin", b.Begin("main", 8, one(step.Stat, "/")), api.ErrArg)
	want(t, "Snapshot", b.Snapshot("main@b"), api.ErrBusy)
	want(t, "Snapshot", b.Snapshot("main@a"), api.ErrBusy)
	want(t, "Snapshot", b.Snapshot("no@a"), api.ErrMiss)
	want(t, "Destroy", b.Destroy("c"), api.ErrBusy)
	steps("main", 7, 1)
	steps("main", 0, 0) // it must wait
	b.fails(t, "main", one(step.Create, "/g"), api.ErrBusy)
	steps("c", 0, 1) // another dataset has a lock of its own
	steps("main", 7, 2)
	steps("main", 7, 3)
	comes("main", 7, step.Result{Err: api.ErrMiss, Ticket: 1})
	steps("main", 0, 1)
	done(t, b.Sync(), b.Fsync()) // others' calls aren't in the way of these
	steps("main", 0, 2)
	done(t, b.Fsync())
	steps("main", 0, 3)
	steps("main", 0, 3)
	want(t, "Snapshot", b.Snapshot("main@b"), api.ErrBusy) // its result wasn't told
	comes("main", 0, step.Result{N: 2, Ticket: 2})
	want(t, "Snapshot", b.Snapshot("main@b"), api.OK)
	if r, e := b.Result("main", 0); !same(r, step.Result{}) || e != api.ErrMiss {
		t.Error(r, e)
	}
	if r, e := b.Result("c", 0); !same(r, step.Result{}) || e != api.ErrBusy {
		t.Error(r, e)
	}
	begins("c", 1, one(step.Rmdir, "/d"))
	b.r.Crash(nil)
	b.imports(t)
	b.reads(t, "main", "/f", "") // it took effect ahead of an Fsync
	if r, e := b.Result("c", 0); !same(r, step.Result{}) || e != api.ErrMiss {
		t.Error(r, e)
	}
	want(t, "Destroy", b.Destroy("c"), api.OK)
}

// P18.1: a client's call on a dataset isn't in the way of another one's snapshots and clones, nor of its own snapshots' destroying.
func TestBusyElsewhere(t *testing.T) {
	b := lay(t, 5, 500, 40)
	done(t, b.Snapshot("main@a"), b.Clone("main@a", "c"), b.Begin("c", 0, one(step.Stat, "/")))
	done(t, b.Snapshot("main@b"), b.Clone("main@b", "d"), b.Destroy("d"), b.Destroy("main@b"))
	want(t, "Snapshot", b.Snapshot("c@a"), api.ErrBusy)
	for range 3 {
		b.Step("c", 0)
	}
	b.Result("c", 0)
	done(t, b.Snapshot("c@a"), b.Begin("c", 0, one(step.Stat, "/")), b.Destroy("c@a"))
	want(t, "Destroy", b.Destroy("c"), api.ErrBusy)
}

// all kinds of calls that change a world, with fields that aren't asked for, and data and names of all bytes that there may be.
func kinds() []step.Call {
	odd := func(kind int, path, to string) step.Call {
		return step.Call{Kind: kind, Path: path, To: to, D: 1, Off: 3, N: 5, Data: " 1 2 "}
	}
	all := make([]byte, 256)
	for i := range all {
		all[i] = byte(i)
	}
	l := []step.Call{
		odd(step.Mkdir, "/d", "x y"), odd(step.Create, "/f", ""), one(step.Open, "/f"),
		at(step.Write, 1, 0, 7, string(all)), at(step.Write, 1, 700, 0, " "), at(step.Write, 1, 800, 0, ""), at(step.Write, 1, 0, 0, long(4096, 3)),
		at(step.Write, 1, 900, 0, "  "), at(step.Truncate, 1, 5, 1000, "z"), at(step.Truncate, 1, 0, 1200, ""), odd(step.Link, "/f", "/d/g"), odd(step.Rename, "/d", "/e"),
		odd(step.Link, "/f", "/h"), odd(step.Unlink, "/f", "/h"), odd(step.Rename, "/h", "/e/g"), odd(step.Mkdir, "/e/i", ""), odd(step.Rmdir, "/e/i", ""),
	}
	for c := byte(0x21); c <= 0x7e; c++ {
		if c != '/' && c != '.' && c != 'g' {
			l = append(l, one(step.Create, "/e/"+string(c)))
		}
	}
	return l
}

// P18.2: calls of all kinds are done again behind a crash, just as they were done, and once.
func TestAllKinds(t *testing.T) {
	t.Parallel()
	for _, logs := range []int{500, 300, 30, 1} {
		b := lay(t, 5, 400+logs, logs)
		want(t, "Snapshot", b.Snapshot("main@a"), api.OK)
		want(t, "Clone", b.Clone("main@a", "c"), api.OK)
		for i, c := range kinds() {
			for _, set := range []string{"main", "c"} {
				if r := b.Call(set, c); r.Err != api.OK {
					t.Fatal(c, r)
				}
			}
			if i%4 == 0 {
				want(t, "Fsync", b.Fsync(), api.OK)
			}
		}
		want(t, "Fsync", b.Fsync(), api.OK)
		is := b.view(t)
		for range 2 {
			b.r.Crash(nil)
			b.imports(t)
			if b.view(t) != is {
				t.Fatal(logs, "calls are done otherwise behind a crash")
			}
		}
	}
}

// P18.2: many calls without a Sync: they are answered OK while there is room, and behind a crash the first ones are there.
func TestManyCalls(t *testing.T) {
	t.Parallel()
	for _, size := range []int{0, 200, 4096} {
		b := lay(t, 5, 441, 41)
		n := 0
		for ; n < 1500; n++ {
			path := fmt.Sprintf("/d%d", n/40)
			if n%40 == 0 {
				if r := b.Call("main", one(step.Mkdir, path)); r.Err == api.ErrSpace {
					break
				}
			}
			roomy := b.roomy()
			path = fmt.Sprintf("%s/%d", path, n)
			r := b.Call("main", one(step.Create, path))
			if r.Err == api.ErrSpace {
				if roomy {
					t.Fatal("no room, with", b.free())
				}
				break
			}
			want(t, "Create", r.Err, api.OK)
			b.all(t, "main", one(step.Open, path))
			if r := b.Call("main", at(step.Write, 1, 0, 0, long(size, n))); r.Err != api.OK {
				want(t, "Write", r.Err, api.ErrSpace)
				break
			}
			b.all(t, "main", at(step.Close, 1, 0, 0, ""))
		}
		if n < 10 {
			t.Error(size, n, "files alone")
		}
		b.r.Crash(nil)
		b.imports(t)
		there := 0
		for b.Call("main", one(step.Stat, fmt.Sprintf("/d%d/%d", there/40, there))).Err == api.OK {
			there++
		}
		for i := range there - 1 {
			b.reads(t, "main", fmt.Sprintf("/d%d/%d", i/40, i), long(size, i))
		}
		for i := there; i < n; i++ {
			if b.Call("main", one(step.Stat, fmt.Sprintf("/d%d/%d", i/40, i))).Err == api.OK {
				t.Fatal(i, "is there,", there, "isn't")
			}
		}
		b.cells(t)
	}
}

// P18.1: what a pool holds is counted as its transactions are: each has a greater number than the one ahead.
func TestTransactions(t *testing.T) {
	b := lay(t, 5, 500, 3)
	last, _ := label.Newest(b.r)
	for _, do := range []func() api.Errno{
		b.Sync, b.Sync, func() api.Errno { return b.Snapshot("main@a") }, func() api.Errno { return b.Clone("main@a", "c") },
		func() api.Errno { return b.Receive("", "d", b.sends(t, "", "main@a")) }, func() api.Errno { return b.Destroy("d") }, func() api.Errno { return b.Destroy("c") },
		func() api.Errno {
			b.writes(t, "main", "/f", long(500, 1))
			return b.Fsync() // for which the log has no room
		},
	} {
		want(t, "what makes a transaction", do(), api.OK)
		u, e := label.Newest(b.r)
		if e != api.OK || u.Txg <= last.Txg || b.r.Pending() > 0 {
			t.Fatal(u, last, e)
		}
		b.cells(t)
		last = u
	}
	for _, e := range []api.Errno{b.Snapshot("main@a"), b.Snapshot("x"), b.Clone("main@a", "main"), b.Destroy("no"), b.Destroy("main"), b.Receive("", "main", nil), b.Receive("", "n", nil)} {
		if u, _ := label.Newest(b.r); e == api.OK || u != last {
			t.Fatal(e, u, last)
		}
	}
	b.all(t, "main", one(step.Create, "/g"))
	want(t, "Fsync", b.Fsync(), api.OK)
	if u, _ := label.Newest(b.r); u != last {
		t.Error("a transaction, though the log has room")
	}
}
