package step_test

import (
	"math"
	"math/rand"
	"reflect"
	"slices"
	"strings"
	"testing"

	"hoard/api"
	"hoard/array"
	"hoard/rack"
	"hoard/step"
	"hoard/store"
	"hoard/tree"
	"hoard/world"
)

// bed is a machine with all that it stands on.
type bed struct {
	*step.Machine
	w *world.World
	x *tree.Tree
	s *store.Store
	r *rack.Rack
}

// lay makes a machine on a new world.
func lay(t *testing.T) bed {
	t.Helper()
	r, e := rack.New(5, 900)
	want(t, "rack.New", e, api.OK)
	a, e := array.New(r, 0)
	want(t, "array.New", e, api.OK)
	s, e := store.New(a, nil, 1)
	want(t, "store.New", e, api.OK)
	x, e := tree.Open(s, api.Ptr{})
	want(t, "tree.Open", e, api.OK)
	w, e := world.New(x)
	want(t, "world.New", e, api.OK)
	return bed{w: w, x: x, s: s, r: r}.anew(t)
}

// anew is another machine on the same world.
func (b bed) anew(t *testing.T) bed {
	t.Helper()
	m, e := step.New(b.w)
	if m == nil || e != api.OK {
		t.Fatal("New", m, e)
	}
	b.Machine = m
	return b
}

// want holds an error against the one that must be.
func want(t *testing.T, what string, got, must api.Errno) {
	t.Helper()
	if got != must {
		t.Fatalf("%s: error %d, not %d", what, got, must)
	}
}

// same: are two results one?
func same(a, b step.Result) bool {
	l, m := a.Names, b.Names
	a.Names, b.Names = nil, nil
	return slices.Equal(l, m) && reflect.DeepEqual(a, b)
}

// does holds a Do to a result, whose ticket is the next one.
func (b bed) does(t *testing.T, c step.Call, must step.Result) {
	t.Helper()
	must.Ticket = b.Tickets() + 1
	if r := b.Do(c); !same(r, must) {
		t.Fatalf("Do(%v): %v, not %v", c, r, must)
	}
	if b.Tickets() != must.Ticket {
		t.Fatalf("Do(%v): %d tickets, not %d", c, b.Tickets(), must.Ticket)
	}
}

// all wants each of some calls to be done.
func (b bed) all(t *testing.T, calls ...step.Call) {
	t.Helper()
	for _, c := range calls {
		if r := b.Do(c); r.Err != api.OK {
			t.Fatalf("Do(%v): %v", c, r)
		}
	}
}

// fails holds a Do to an error, and wants it to change nothing.
func (b bed) fails(t *testing.T, c step.Call, must api.Errno) {
	t.Helper()
	was, dirty := b.pairs(t), b.x.Dirty()
	b.does(t, c, step.Result{Err: must})
	if !slices.Equal(b.pairs(t), was) || b.x.Dirty() != dirty {
		t.Fatalf("Do(%v) changed something", c)
	}
}

// busy holds a Do to ErrBusy: nothing is done, and no ticket taken.
func (b bed) busy(t *testing.T, c step.Call) {
	t.Helper()
	was, tickets := b.pairs(t), b.Tickets()
	if r := b.Do(c); !same(r, step.Result{Err: api.ErrBusy}) || b.Tickets() != tickets || !slices.Equal(b.pairs(t), was) {
		t.Fatalf("Do(%v): %v", c, r)
	}
}

// begins begins a client's call.
func (b bed) begins(t *testing.T, client int, c step.Call) {
	t.Helper()
	want(t, "Begin", b.Begin(client, c), api.OK)
}

// steps holds a Step to how many are done.
func (b bed) steps(t *testing.T, client, must int) {
	t.Helper()
	if n, e := b.Step(client); n != must || e != api.OK {
		t.Fatalf("Step(%d): %d, %d, not %d", client, n, e, must)
	}
}

// comes holds a Result to what must be.
func (b bed) comes(t *testing.T, client int, must step.Result) {
	t.Helper()
	if r, e := b.Result(client); !same(r, must) || e != api.OK {
		t.Fatalf("Result(%d): %v, %d, not %v", client, r, e, must)
	}
}

// noResult holds a Result to an error.
func (b bed) noResult(t *testing.T, client int, must api.Errno) {
	t.Helper()
	if r, e := b.Result(client); !same(r, step.Result{}) || e != must {
		t.Fatalf("Result(%d): %v, %d, not %d", client, r, e, must)
	}
}

// told holds Deeds to a list.
func (b bed) told(t *testing.T, must ...step.Deed) {
	t.Helper()
	if l := b.Deeds(); !slices.Equal(l, must) {
		t.Fatalf("Deeds: %v, not %v", l, must)
	}
}

// pairs are all pairs of the tree.
func (b bed) pairs(t *testing.T) []api.Pair {
	t.Helper()
	l, e := b.x.Range("", "", math.MaxInt)
	want(t, "Range", e, api.OK)
	return l
}

// forget has the store remember nothing of the world that is synced.
func (b bed) forget(t *testing.T) {
	t.Helper()
	_, _, e := b.x.Sync()
	want(t, "Sync", e, api.OK)
	want(t, "Flush", b.r.Flush(), api.OK)
	var l []api.Ptr
	for i := range 64 {
		p, e := b.s.Put([]byte{byte(i)})
		want(t, "Put", e, api.OK)
		l = append(l, p)
	}
	for _, p := range l {
		want(t, "Give", b.s.Give(p), api.OK)
	}
	b.s.Settle()
}

// path1 is a call that takes one path, path2 one that takes two, at one that takes a descriptor.
func path1(kind int, path string) step.Call     { return step.Call{Kind: kind, Path: path} }
func path2(kind int, path, to string) step.Call { return step.Call{Kind: kind, Path: path, To: to} }
func at(kind, d, off, n int, data string) step.Call {
	return step.Call{Kind: kind, D: d, Off: off, N: n, Data: data}
}

// shared: may calls of this kind hold the lock together?
func shared(kind int) bool {
	return kind == step.Read || kind >= step.List || kind < step.Create
}

// plain does calls one by one, on a world of its own, as plainly as the chapter tells them.
type plain struct {
	bed
	open map[int]int
}

func newPlain(t *testing.T) *plain {
	t.Helper()
	return &plain{lay(t), map[int]int{}}
}

// file is the number of a descriptor's file.
func (p *plain) file(d int) (int, api.Errno) {
	ino, ok := p.open[d]
	if _, e := p.w.Info(ino); !ok || e == api.ErrMiss {
		return 0, api.ErrStale
	}
	return ino, api.OK
}

// do is a call's result, but for the ticket, and the number in its deed.
func (p *plain) do(c step.Call) (r step.Result, ino int) {
	switch c.Kind {
	case step.Create, step.Mkdir:
		r.N, r.Err = p.w.Make(c.Path, c.Kind)
	case step.Open:
		x, e := p.w.Look(c.Path)
		d := 1
		for p.open[d] != 0 {
			d++
		}
		switch {
		case e != api.OK:
			r.Err = e
		case x.Kind == 2:
			r.Err = api.ErrDir
		case d > 8:
			r.Err = api.ErrBig
		default:
			r.N, p.open[d] = d, x.Ino
		}
	case step.Close:
		if p.open[c.D] == 0 {
			r.Err = api.ErrStale
		}
		delete(p.open, c.D)
	case step.Read, step.Write, step.Truncate:
		ino, r.Err = p.file(c.D)
		switch {
		case r.Err != api.OK:
		case c.Kind == step.Read:
			r.Data, r.Err = p.w.Read(ino, c.Off, c.N)
		case c.Kind == step.Write:
			r.Err = p.w.Write(ino, c.Off, c.Data)
		default:
			r.Err = p.w.Truncate(ino, c.N)
		}
	case step.Rename:
		r.Err = p.w.Rename(c.Path, c.To)
	case step.Unlink:
		r.Err = p.w.Unlink(c.Path)
	case step.Rmdir:
		r.Err = p.w.Rmdir(c.Path)
	case step.Link:
		r.Err = p.w.Link(c.Path, c.To)
	case step.List:
		r.Names, r.Err = p.w.List(c.Path)
	case step.Stat:
		r.Info, r.Err = p.w.Look(c.Path)
	default:
		r.Err = api.ErrArg
	}
	return r, ino
}

// anyOf is one of a list.
func anyOf[T any](rnd *rand.Rand, l []T) T { return l[rnd.Intn(len(l))] }

// anyCall is some call, with all its fields filled, whether its kind asks for them or not.
func anyCall(rnd *rand.Rand) step.Call {
	paths := []string{"/", "/a", "/a", "/b", "/c", "/a/b", "/a/c", "/b/a", "/b/b/b", "x"}
	kinds := []int{1, 1, 1, 1, 2, 2, 3, 3, 3, 3, 4, 5, 5, 6, 6, 6, 7, 8, 8, 9, 9, 10, 11, 12, 13, 0, -1, 14}
	return step.Call{
		Kind: anyOf(rnd, kinds),
		Path: anyOf(rnd, paths),
		To:   anyOf(rnd, paths),
		D:    1 + rnd.Intn(rnd.Intn(9)+1),
		Off:  rnd.Intn(anyOf(rnd, []int{3, 300, 4200})) - 1,
		N:    rnd.Intn(anyOf(rnd, []int{3, 300, 4200})) - 1,
		Data: strings.Repeat(anyOf(rnd, []string{"x", "yz"}), rnd.Intn(anyOf(rnd, []int{2, 300, 2000}))),
	}
}
