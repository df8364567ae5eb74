package pool_test

import (
	"fmt"
	"math"
	"math/rand"
	"reflect"
	"slices"
	"strings"
	"testing"

	"hoard/api"
	"hoard/array"
	"hoard/dataset"
	"hoard/label"
	"hoard/pool"
	"hoard/rack"
	"hoard/scrub"
	"hoard/step"
	"hoard/store"
	"hoard/world"
)

// wild are numbers at the ends of their type, and some about the limits.
var wild = []int{math.MinInt, math.MinInt + 1, -1 << 50, -1, 0, 1, 4, 5, 7, 8, 9, 499, 500, 501, 4096, 4097, 1 << 50, 1<<62 - 1, math.MaxInt - 1, math.MaxInt}

// bed is a pool on a rack.
type bed struct {
	*pool.Pool
	r    *rack.Rack
	logs int
}

// lay makes a pool on new drives.
func lay(t *testing.T, drives, sectors, logs int) *bed {
	t.Helper()
	r, e := rack.New(drives, sectors)
	want(t, "rack.New", e, api.OK)
	p, e := pool.Create(r, logs)
	if p == nil || e != api.OK {
		t.Fatal("Create:", e)
	}
	return &bed{p, r, logs}
}

// imports imports the pool of the rack.
func (b *bed) imports(t *testing.T) {
	t.Helper()
	p, e := pool.Import(b.r, b.logs)
	if p == nil || e != api.OK {
		t.Fatal("Import:", e)
	}
	b.Pool = p
}

// want holds an error against the one that must be.
func want(t *testing.T, what string, got, must api.Errno) {
	t.Helper()
	if got != must {
		t.Fatalf("%s: error %d, not %d", what, got, must)
	}
}

// done wants each of some calls to be done.
func done(t *testing.T, errors ...api.Errno) {
	t.Helper()
	for i, e := range errors {
		if e != api.OK {
			t.Fatalf("call %d: error %d", i, e)
		}
	}
}

// same: are two results one?
func same(a, b step.Result) bool {
	l, m := a.Names, b.Names
	a.Names, b.Names = nil, nil
	return slices.Equal(l, m) && reflect.DeepEqual(a, b)
}

// does holds a call to what it must answer, but for the ticket.
func (b *bed) does(t *testing.T, set string, c step.Call, must step.Result) {
	t.Helper()
	r := b.Call(set, c)
	r.Ticket = 0
	if !same(r, must) {
		t.Fatalf("Call(%q, %s): %s, not %s", set, brief(c), brief(r), brief(must))
	}
}

// brief tells something in a few words.
func brief(x any) string {
	s := fmt.Sprintf("%q", fmt.Sprint(x))
	return s[:min(len(s), 160)]
}

// fails holds a call to an error.
func (b *bed) fails(t *testing.T, set string, c step.Call, must api.Errno) {
	t.Helper()
	b.does(t, set, c, step.Result{Err: must})
}

// all wants each of some calls on a dataset to be done.
func (b *bed) all(t *testing.T, set string, calls ...step.Call) {
	t.Helper()
	for _, c := range calls {
		if r := b.Call(set, c); r.Err != api.OK {
			t.Fatalf("Call(%q, %s): %s", set, brief(c), brief(r))
		}
	}
}

// writes has a file of a dataset hold just these bytes, whether it was there or not.
func (b *bed) writes(t *testing.T, set, path, data string) {
	t.Helper()
	b.Call(set, one(step.Create, path))
	o := b.Call(set, one(step.Open, path))
	want(t, "Open", o.Err, api.OK)
	b.all(t, set, at(step.Truncate, o.N, 0, 0, ""), at(step.Write, o.N, 0, 0, data), at(step.Close, o.N, 0, 0, ""))
}

// reads holds a file's bytes to those that must be.
func (b *bed) reads(t *testing.T, set, path, must string) {
	t.Helper()
	o := b.Call(set, one(step.Open, path))
	want(t, "Open of "+path+" of "+set, o.Err, api.OK)
	r := b.Call(set, at(step.Read, o.N, 0, 5000, ""))
	b.all(t, set, at(step.Close, o.N, 0, 0, ""))
	if r.Err != api.OK || r.Data != must {
		t.Fatalf("%s of %s: %d, %d bytes %.20q, not %d %.20q", path, set, r.Err, len(r.Data), r.Data, len(must), must)
	}
}

// misses wants a path not to be there.
func (b *bed) misses(t *testing.T, set, path string) {
	t.Helper()
	b.fails(t, set, one(step.Stat, path), api.ErrMiss)
}

// lists holds List to names.
func (b *bed) lists(t *testing.T, names ...string) {
	t.Helper()
	if l, e := b.List(); e != api.OK || !slices.Equal(l, names) {
		t.Fatalf("List: %v, %d, not %v", l, e, names)
	}
}

// sends is a stream.
func (b *bed) sends(t *testing.T, from, to string) []byte {
	t.Helper()
	s, e := b.Send(from, to)
	want(t, "Send", e, api.OK)
	return s
}

// free is how many cells are free.
func (b *bed) free() int {
	n, _ := b.Free()
	return n
}

// roomy: are two thirds of the cells free?
func (b *bed) roomy() bool {
	n, all := b.Free()
	return 3*n >= 2*all
}

// scrubs has a scrub go to its end, and holds what it loses to nothing.
func (b *bed) scrubs(t *testing.T) scrub.Report {
	t.Helper()
	c, e := b.Scrub("")
	want(t, "Scrub", e, api.OK)
	if end, e := c.Step(math.MaxInt); !end || e != api.OK {
		t.Fatal("Step:", end, e)
	}
	if c.Report().Lost > 0 {
		t.Fatal(c.Report())
	}
	return c.Report()
}

// needed are the blocks of the last transaction's root, and how many cells they take.
func (b *bed) needed(t *testing.T) (l []api.Ptr, cells int) {
	t.Helper()
	u, e := label.Newest(b.r)
	want(t, "Newest", e, api.OK)
	a, e := array.New(b.r, 8+b.logs)
	want(t, "array.New", e, api.OK)
	s, e := store.New(a, nil, 1)
	want(t, "store.New", e, api.OK)
	l, e = dataset.Reach(s, u.Root)
	want(t, "Reach", e, api.OK)
	for _, p := range l {
		n, e := a.Cost(p.Size)
		want(t, "Cost", e, api.OK)
		cells += n
	}
	return l, cells
}

// cells holds those that are free, behind a transaction, to those that its root doesn't need.
func (b *bed) cells(t *testing.T) {
	t.Helper()
	_, used := b.needed(t)
	all := b.r.Drives() * (b.r.Sectors() - 8 - b.logs)
	if n, m := b.Free(); n != all-used || m != all {
		t.Fatalf("Free: %d of %d, not %d of %d", n, m, all-used, all)
	}
}

// fail makes drives fail: lost (0), replaced by new ones (1), rotten (2), or each in another way (3 and more).
func (b *bed) fail(drives []int, way int) {
	for i, drive := range drives {
		switch (way + i*(way/3)) % 3 {
		case 0:
			b.r.Lose(drive)
		case 1:
			b.r.Replace(drive)
		default:
			b.rots(drive, 100*way+i)
		}
	}
}

// rots has all sectors of a drive rot.
func (b *bed) rots(drive, n int) {
	for at := range b.r.Sectors() {
		b.r.Rot(drive, at, n+at)
	}
}

// off makes the power go off.
func (b *bed) off() {
	b.r.Arm(0)
	b.r.Flush()
}

// crash crashes with any picks.
func (b *bed) crash(rnd *rand.Rand) {
	picks := make([]int, rnd.Intn(b.r.Pending()+1))
	way := rnd.Intn(3)
	for i := range picks {
		picks[i] = []int{1, rnd.Intn(2), rnd.Intn(5) - 2}[way]
	}
	b.r.Crash(picks)
}

// look is all that can be seen of a dataset or a snapshot, by what answers these.
func look(stat func(string) world.Info, list func(string) []string, read func(string, world.Info) string) string {
	var b strings.Builder
	var down func(path string)
	down = func(path string) {
		x := stat(path)
		fmt.Fprintln(&b, path, x)
		if x.Kind == 1 {
			fmt.Fprintf(&b, "%q\n", read(path, x))
			return
		}
		for _, name := range list(path) {
			down(strings.TrimSuffix(path, "/") + "/" + name)
		}
	}
	down("/")
	return b.String()
}

// looks is what is seen of a dataset or a snapshot of the pool. (It wants a descriptor.)
func (b *bed) looks(t *testing.T, set string) string {
	t.Helper()
	ask := func(c step.Call) step.Result {
		r := b.Call(set, c)
		if r.Err != api.OK {
			t.Fatalf("Call(%q, %s): %d", set, brief(c), r.Err)
		}
		return r
	}
	return look(
		func(path string) world.Info { return ask(one(step.Stat, path)).Info },
		func(path string) []string { return ask(one(step.List, path)).Names },
		func(path string, _ world.Info) string {
			d := ask(one(step.Open, path)).N
			s := ask(at(step.Read, d, 0, 5000, "")).Data
			ask(at(step.Close, d, 0, 0, ""))
			return s
		},
	)
}

// view is what is seen of all datasets and snapshots of the pool.
func (b *bed) view(t *testing.T) string {
	t.Helper()
	l, e := b.List()
	want(t, "List", e, api.OK)
	s := ""
	for _, set := range l {
		s += set + "\n" + b.looks(t, set)
	}
	return s
}

// one is a call that takes one path, two one that takes two, at one that takes a descriptor.
func one(kind int, path string) step.Call     { return step.Call{Kind: kind, Path: path} }
func two(kind int, path, to string) step.Call { return step.Call{Kind: kind, Path: path, To: to} }
func at(kind, d, off, n int, data string) step.Call {
	return step.Call{Kind: kind, D: d, Off: off, N: n, Data: data}
}

// changes: does a call of this kind change a world?
func changes(kind int) bool {
	return kind >= step.Create && kind <= step.Link && (kind < step.Open || kind > step.Read)
}

// long is a text of n bytes, another one for each seed.
func long(n, seed int) string {
	b := make([]byte, n)
	rand.New(rand.NewSource(int64(n*1000 + seed))).Read(b)
	return string(b)
}

// anyOf is one of a list.
func anyOf[T any](rnd *rand.Rand, l []T) T { return l[rnd.Intn(len(l))] }
