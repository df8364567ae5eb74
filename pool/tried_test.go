package pool

import (
	"testing"

	"hoard/api"
	"hoard/rack"
	"hoard/step"
	"hoard/store"
)

// tight is a pool with a file that is open, and so many cells, or up to three more, left: all others are taken by blocks that nobody needs.
func tight(t *testing.T, drives, cells int) *Pool {
	t.Helper()
	r, _ := rack.New(drives, 450)
	p, e := Create(r, 40)
	if e != api.OK {
		t.Fatal(e)
	}
	for _, c := range []step.Call{{Kind: step.Create, Path: "/f"}, {Kind: step.Open, Path: "/f"}, {Kind: step.Write, D: 1, Data: "abc"}, {Kind: step.Create, Path: "/g"}} {
		if x := p.Call("main", c); x.Err != api.OK {
			t.Fatal(c, x)
		}
	}
	if e := p.Sync(); e != api.OK {
		t.Fatal(e)
	}
	p.crowd(t, cells)
	return p
}

// crowd takes all cells but so many.
func (p *Pool) crowd(t *testing.T, cells int) {
	t.Helper()
	for p.store.Free() >= cells+4 {
		if p.store.Free() >= cells+20 {
			if _, e := p.store.Put(make([]byte, api.MaxBlock)); e == api.OK {
				continue
			}
		}
		if _, e := p.store.Put([]byte{1}); e != api.OK {
			t.Fatal(e)
		}
	}
	p.room = room{}
}

// ErrSpace: a call that makes room is tried where there may be none; if there is none, it is undone, and has taken its ticket alone. One that takes room isn't tried.
func TestTried(t *testing.T) {
	for cells := range 30 {
		p := tight(t, 5, cells)
		if x := p.Call("main", step.Call{Kind: step.Create, Path: "/h"}); x.Err != api.ErrSpace || x.Ticket != 0 {
			t.Fatal(cells, x)
		}
		if x := p.Call("main", step.Call{Kind: step.Rmdir, Path: "/f"}); x.Err != api.ErrFile || x.Ticket != 5 {
			t.Fatal(cells, x)
		}
		txg := p.log.Base()
		x := p.Call("main", step.Call{Kind: step.Unlink, Path: "/g"})
		is := p.Call("main", step.Call{Kind: step.Stat, Path: "/g"})
		switch {
		case x.Err == api.ErrSpace && x.Ticket == 6 && is.Err == api.OK && is.Ticket == 7 && p.log.Base() == txg && cells < 8:
		case x.Err == api.OK && x.Ticket == 6 && is.Err == api.ErrMiss && p.log.Base() > txg && len(p.deeds) == 0 && cells > 4:
		default:
			t.Fatal(cells, x, is)
		}
		// What was opened anew has nothing that nobody needs.
		if x := p.Call("main", step.Call{Kind: step.Read, D: 1, N: 9}); x.Data != "abc" {
			t.Fatal(cells, x)
		}
		if p.Sync() != api.OK || is.Err == api.OK && p.Call("main", step.Call{Kind: step.Unlink, Path: "/g"}).Err != api.OK {
			t.Fatal(cells)
		}
	}
}

// ErrSpace: so is a client's, whose result tells it; the steps go on.
func TestTriedByClient(t *testing.T) {
	p := tight(t, 5, 0)
	if e := p.Begin("main", 2, step.Call{Kind: step.Truncate, D: 1, N: 1}); e != api.OK {
		t.Fatal(e)
	}
	if e := p.Begin("main", 3, step.Call{Kind: step.Create, Path: "/h"}); e != api.OK {
		t.Fatal(e)
	}
	for range 2 {
		if n, e := p.Step("main", 3); n != 0 || e != api.ErrSpace {
			t.Fatal(n, e)
		}
	}
	for i := range 3 {
		if n, e := p.Step("main", 2); n != i+1 || e != api.OK {
			t.Fatal(i, n, e)
		}
	}
	if r, e := p.Result("main", 2); e != api.OK || r.Err != api.ErrSpace || r.Ticket != 5 {
		t.Fatal(r, e)
	}
	if x := p.Call("main", step.Call{Kind: step.Read, D: 1, N: 9}); x.Data != "abc" {
		t.Fatal(x)
	}
	for i := range 3 {
		if n, e := p.Step("main", 3); n != i+1 || e != api.OK {
			t.Fatal(i, n, e)
		}
	}
	if r, e := p.Result("main", 3); e != api.OK || r.N != 4 || r.Ticket != 7 {
		t.Fatal(r, e)
	}
	if p.Begin("main", 2, step.Call{Kind: step.Stat, Path: "/h"}) != api.OK {
		t.Fatal("a client whose call is over")
	}
	for range 3 {
		p.Step("main", 2)
	}
	if r, e := p.Result("main", 2); e != api.OK || r.Err != api.OK {
		t.Fatal(r, e)
	}
}

// ErrSpace: datasets and snapshots are refused that would leave too little room, though there was some for themselves; a pool with room isn't asked.
func TestGrow(t *testing.T) {
	p := tight(t, 5, 20*kept+40)
	if e := p.Snapshot("main@a"); e != api.OK {
		t.Fatal(e)
	}
	for _, cells := range []int{20*kept - 1, 100, 0} {
		p := tight(t, 5, cells)
		for range 2 {
			if e := p.Snapshot("main@a"); e != api.ErrSpace {
				t.Fatal(cells, e)
			}
			if l, e := p.List(); len(l) != 1 || e != api.OK {
				t.Fatal(cells, l, e)
			}
			// What was opened anew has room.
			if p.Snapshot("main@a") != api.OK || p.Destroy("main@a") != api.OK {
				t.Fatal(cells)
			}
			p.crowd(t, cells)
		}
	}
}

// ErrSpace: nothing is looked for where a client's call only asks, or took effect.
func TestStepsWithoutRoom(t *testing.T) {
	p := tight(t, 5, 2000)
	for n, c := range []step.Call{{Kind: step.Create, Path: "/h"}, {Kind: step.Stat, Path: "/f"}, {Kind: step.Open, Path: "/f"}} {
		if e := p.Begin("main", n, c); e != api.OK {
			t.Fatal(e)
		}
		for i := range 3 {
			if n == 0 && i == 2 {
				if e := p.Fsync(); e != api.OK {
					t.Fatal(e)
				}
			}
			if n > 0 || i == 2 {
				p.crowd(t, 0)
			}
			if k, e := p.Step("main", n); k != i+1 || e != api.OK {
				t.Fatal(n, i, k, e)
			}
		}
	}
	// Each client is looked for.
	for _, n := range []int{0, 7} {
		p := tight(t, 5, 0)
		if e := p.Begin("main", n, step.Call{Kind: step.Create, Path: "/h"}); e != api.OK {
			t.Fatal(e)
		}
		if k, e := p.Step("main", n); k != 0 || e != api.ErrSpace {
			t.Fatal(n, k, e)
		}
	}
}

// ErrIO: a call that is to last at once, and can't, is undone.
func TestTriedWithFourLost(t *testing.T) {
	p := tight(t, 16, 0)
	for drive := range 4 {
		p.rack.Lose(drive)
	}
	if x := p.Call("main", step.Call{Kind: step.Unlink, Path: "/g"}); x.Err != api.ErrIO || x.Ticket != 5 {
		t.Fatal(x)
	}
	if x := p.Call("main", step.Call{Kind: step.Stat, Path: "/g"}); x.Err != api.OK || len(p.deeds) > 0 {
		t.Fatal(x)
	}
}

// Create: where a first transaction was broken off, another one begins with nothing of it.
func TestFirstAgain(t *testing.T) {
	p := tight(t, 5, 100)
	s, e := store.New(p.array, nil, p.store.Txg())
	if e != api.OK || p.first(s) != api.OK {
		t.Fatal(e)
	}
	if x := p.Call("main", step.Call{Kind: step.Create, Path: "/f"}); x.N != 2 || x.Ticket != 1 || p.Sync() != api.OK {
		t.Fatal(x)
	}
	if p, e = Import(p.rack, 40); e != api.OK {
		t.Fatal(e)
	}
	if x := p.Call("main", step.Call{Kind: step.List, Path: "/"}); len(x.Names) != 1 {
		t.Fatal(x)
	}
}

// What is refused, or done, needn't be opened anew; what is broken off must.
func TestStale(t *testing.T) {
	p := tight(t, 5, 2000)
	for _, e := range []api.Errno{p.Snapshot("main"), p.Snapshot("no@a"), p.Clone("main@a", "c"), p.Destroy("main"), p.Receive("", "c", nil), p.Receive("", "main", nil)} {
		if e == api.OK || p.stale {
			t.Fatal(e)
		}
	}
	for range 2 {
		if p.Sync() != api.OK || p.stale || p.Snapshot("main@a") != api.OK || p.stale || p.Destroy("main@a") != api.OK || p.stale {
			t.Fatal("what was done is opened anew")
		}
		p.crowd(t, 100*20)
		if p.roomy() {
			p.crowd(t, 1200)
		}
	}
	free := p.store.Free()
	p.crowd(t, 0)
	if e := p.Snapshot("main@a"); e != api.ErrSpace || !p.stale {
		t.Fatal(e)
	}
	if n, _ := p.Free(); n <= free || p.stale {
		t.Fatal("what was broken off isn't opened anew")
	}
}

// ErrSpace: while two thirds of the cells are free a call is tried, though no place is left for a block of the greatest size; a dataset too.
func TestScattered(t *testing.T) {
	p := tight(t, 5, 4)
	var l []api.Ptr
	for _, r := range p.store.Used() {
		for at := r.From; at+4 <= r.To; at += 4 {
			l = append(l, api.Ptr{Addr: at, Size: 1})
		}
	}
	// Of each twenty cells four stay used, and all that are needed.
	for i, b := range l {
		if i > 4 && i%5 > 0 {
			if e := p.store.Give(b); e != api.OK {
				t.Fatal(e)
			}
		}
	}
	p.store.Settle()
	p.room = room{}
	if n, e := p.places(); n != 0 || e != api.OK || !p.roomy() {
		t.Fatal(n, e, p.store.Free())
	}
	for _, path := range []string{"/h", "/i", "/j"} {
		if x := p.Call("main", step.Call{Kind: step.Create, Path: path}); x.Err != api.OK || len(p.deeds) > 0 {
			t.Fatal(x)
		}
	}
	if p.Snapshot("main@a") != api.OK || p.Clone("main@a", "c") != api.OK {
		t.Fatal("there is room")
	}
}
