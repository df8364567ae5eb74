package pool_test

import (
	"bytes"
	"math"
	"slices"
	"strings"
	"testing"

	"hoard/api"
	"hoard/intent"
	"hoard/label"
	"hoard/pack"
	"hoard/pool"
	"hoard/rack"
	"hoard/scrub"
	"hoard/sha"
	"hoard/step"
)

// P18.2: the chapter's first example; example 9 of the whole.
func TestExampleFsync(t *testing.T) {
	b := lay(t, 5, 440, 40)
	b.does(t, "main", one(step.Create, "/f"), step.Result{N: 2})
	b.r.Crash(nil)
	b.imports(t)
	b.misses(t, "main", "/f")
	b.all(t, "main", one(step.Create, "/f"))
	want(t, "Fsync", b.Fsync(), api.OK)
	b.r.Crash(nil)
	for _, drive := range []int{1, 2, 4} {
		b.r.Lose(drive)
	}
	b.imports(t)
	if r := b.Call("main", one(step.Stat, "/f")); r.Err != api.OK || r.Info.Kind != 1 {
		t.Error(r)
	}
}

// P18.4: the chapter's second example.
func TestExampleSnapshot(t *testing.T) {
	b := lay(t, 5, 440, 40)
	b.writes(t, "main", "/f", "abc")
	want(t, "Snapshot", b.Snapshot("main@a"), api.OK)
	b.all(t, "main", one(step.Unlink, "/f"))
	b.misses(t, "main", "/f")
	b.reads(t, "main@a", "/f", "abc")
	want(t, "Receive", b.Receive("", "copy", b.sends(t, "", "main@a")), api.OK)
	for drive := range 3 {
		b.r.Lose(drive)
		b.reads(t, "copy", "/f", "abc")
		b.reads(t, "main@a", "/f", "abc")
	}
}

// P18.3: example 10 of the whole, for each three drives, and each three others.
func TestExampleDrives(t *testing.T) {
	for first := range 5 {
		for then := range 5 {
			b := lay(t, 5, 440, 40)
			b.writes(t, "main", "/f", long(3000, 1))
			want(t, "Sync", b.Sync(), api.OK)
			b.all(t, "main", one(step.Create, "/g"))
			want(t, "Fsync", b.Fsync(), api.OK)
			for i := range 3 {
				b.r.Replace((first + i) % 5)
			}
			if b.scrubs(t).Wrong == 0 {
				t.Fatal("new drives hold what they must")
			}
			want(t, "Sync", b.Sync(), api.OK)
			for i := range 3 {
				b.r.Lose((then + 2*i) % 5)
			}
			b.reads(t, "main", "/f", long(3000, 1))
			b.r.Crash(nil)
			b.imports(t)
			b.reads(t, "main", "/f", long(3000, 1))
			b.reads(t, "main", "/g", "")
		}
	}
}

// P1, the errors of Create and Import: racks and logs that are too small or too large; and none that isn't.
func TestArgs(t *testing.T) {
	for _, x := range []struct {
		drives, sectors, logs int
		e                     api.Errno
	}{
		{4, 500, 40, api.ErrArg}, {1, 2000, 1, api.ErrArg}, {5, 500, 0, api.ErrArg}, {5, 2000, 501, api.ErrArg}, {5, 500, -1, api.ErrArg},
		{5, 500, 101, api.ErrArg}, {5, 400, 1, api.ErrArg}, {16, 899, 500, api.ErrArg}, {5, 500, math.MaxInt, api.ErrArg}, {5, 500, math.MinInt, api.ErrArg},
		{5, 401, 1, api.OK}, {5, 500, 100, api.OK}, {5, 900, 500, api.OK}, {16, 2000, 500, api.OK}, {16, 401, 1, api.OK},
	} {
		r, e := rack.New(x.drives, x.sectors)
		want(t, "rack.New", e, api.OK)
		p, e := pool.Create(r, x.logs)
		if e != x.e || (p != nil) != (e == api.OK) {
			t.Error("Create", x, p, e)
		}
		if e != api.OK {
			before := r.Pending()
			if r.Arm(0); before > 0 {
				t.Error(x, "writes something")
			}
		}
		p, e = pool.Import(r, x.logs)
		if e != x.e || (p != nil) != (e == api.OK) {
			t.Error("Import", x, p, e)
		}
	}
	for _, logs := range wild {
		if p, e := pool.Create(nil, logs); p != nil || e != api.ErrArg {
			t.Error("Create", p, e)
		}
		if p, e := pool.Import(nil, logs); p != nil || e != api.ErrArg {
			t.Error("Import", p, e)
		}
	}
	var r rack.Rack
	if p, e := pool.Create(&r, 40); p != nil || e != api.ErrArg {
		t.Error("Create", p, e)
	}
}

// The errors of Create and Import: there is no label's record; the power is off; more is wrong than three drives; a root that is none.
func TestNoPool(t *testing.T) {
	r, _ := rack.New(5, 500)
	noImport(t, r, api.ErrMiss)
	r.Arm(0)
	r.Flush()
	noImport(t, r, api.ErrDown)
	if p, e := pool.Create(r, 40); p != nil || e != api.ErrDown {
		t.Error("Create", p, e)
	}
	r.Crash(nil)
	noImport(t, r, api.ErrMiss)

	b := lay(t, 5, 500, 40)
	b.writes(t, "main", "/f", long(4000, 1))
	want(t, "Sync", b.Sync(), api.OK)
	for drive := range 4 {
		b.r.Replace(drive)
	}
	noImport(t, b.r, api.ErrIO)
	b.r.Lose(4)
	b.r.Crash(nil)
	noImport(t, b.r, api.ErrIO) // the one before has written the label to the new drives, ahead of all else
	for drive := range 5 {
		b.r.Lose(drive)
	}
	noImport(t, b.r, api.ErrMiss)
	if p, e := pool.Create(b.r, 40); p != nil || e != api.ErrIO {
		t.Error("Create", p, e)
	}

	b = lay(t, 5, 500, 40)
	if _, e := label.Write(b.r, label.Uber{Txg: 9, Root: api.Ptr{Addr: 0, Size: 1024, Birth: 1, Sum: sha.Sum(nil)}}); e != api.OK {
		t.Fatal(e)
	}
	noImport(t, b.r, api.ErrIO)
}

// noImport wants an Import to be refused.
func noImport(t *testing.T, r *rack.Rack, must api.Errno) {
	t.Helper()
	if p, e := pool.Import(r, 40); p != nil || e != must {
		t.Fatalf("Import: %v, %d, not %d", p, e, must)
	}
}

// What lies where on a drive: the label in sectors 0 to 7, the log behind, and then the array; a new pool has one dataset.
func TestLies(t *testing.T) {
	b := lay(t, 6, 470, 33)
	b.lists(t, "main")
	b.does(t, "main", one(step.List, "/"), step.Result{})
	u, e := label.Newest(b.r)
	want(t, "Newest", e, api.OK)
	if b.r.Pending() != 0 || u.Txg < 1 {
		t.Error(b.r.Pending(), u)
	}
	if _, all := b.Free(); all != 6*(470-8-33) {
		t.Error(all)
	}
	b.all(t, "main", one(step.Create, "/f"))
	want(t, "Fsync", b.Fsync(), api.OK)
	if b.r.Pending() != 0 {
		t.Error("an Fsync that isn't flushed")
	}
	if _, l, e := intent.Open(b.r, 8, 33, u.Txg); len(l) != 1 || e != api.OK {
		t.Error(l, e)
	}
	for drive := range 6 {
		for at := range 8 + 33 {
			s, e := b.r.Read(drive, at)
			want(t, "Read", e, api.OK)
			if at := at - 8; at > 0 && !bytes.Equal(s, make([]byte, 128)) {
				t.Error(drive, at, "holds something")
			}
		}
	}
	b.cells(t)
	want(t, "Sync", b.Sync(), api.OK)
	v, _ := label.Newest(b.r)
	if v.Txg <= u.Txg || v.Root == u.Root {
		t.Error(u, v)
	}
	for drive := range 6 {
		l, e := label.Slots(b.r, drive)
		if e != api.OK || l[v.Txg%8] != v.Txg || l[u.Txg%8] != u.Txg {
			t.Error(l, e)
		}
	}
	b.cells(t)
}

// Create on a rack on which there was a pool: another one, behind all transactions of that, and nothing of its log.
func TestCreateAgain(t *testing.T) {
	b := lay(t, 5, 500, 40)
	for range 20 {
		b.writes(t, "main", "/f", long(900, 1))
		want(t, "Sync", b.Sync(), api.OK)
	}
	b.all(t, "main", one(step.Create, "/g"))
	want(t, "Fsync", b.Fsync(), api.OK)
	want(t, "Snapshot", b.Snapshot("main@a"), api.OK)
	b.all(t, "main", one(step.Create, "/h"))
	want(t, "Fsync", b.Fsync(), api.OK)
	u, _ := label.Newest(b.r)
	p, e := pool.Create(b.r, 40)
	want(t, "Create", e, api.OK)
	b.Pool = p
	if v, _ := label.Newest(b.r); v.Txg <= u.Txg {
		t.Error(u, v)
	}
	for range 2 {
		b.lists(t, "main")
		b.does(t, "main", one(step.List, "/"), step.Result{})
		b.does(t, "main", one(step.Stat, "/"), step.Result{Info: b.Call("main", one(step.Stat, "/")).Info})
		b.cells(t)
		b.r.Crash(nil)
		b.imports(t)
	}

	// Of an older pool only the log is left, on some drives, behind a transaction that this one comes to.
	for base := 1; base < 5; base++ {
		r, _ := rack.New(5, 500)
		l, _, e := intent.Open(r, 8, 40, base)
		want(t, "intent.Open", e, api.OK)
		done(t, l.Append("main 1 /x"), l.Append("main 1 /y"), r.Flush())
		for drive := range 5 - base {
			r.Replace(drive)
		}
		p, e := pool.Create(r, 40)
		want(t, "Create", e, api.OK)
		b := &bed{p, r, 40}
		for range 5 {
			b.r.Crash(nil)
			b.imports(t)
			b.does(t, "main", one(step.List, "/"), step.Result{})
			want(t, "Sync", b.Sync(), api.OK)
		}
	}
}

// Create on a rack with a pool that is full, or can't be read, or has another log: all cells but its own are free.
func TestCreateOver(t *testing.T) {
	for i := range 4 {
		b := lay(t, 5, 441, 40)
		free := b.free()
		n := b.fill(t, "main", 900)
		done(t, b.Sync())
		switch i {
		case 1:
			for drive := range 5 {
				b.rots(drive, 3)
			}
		case 2:
			b.logs = 7
		case 3:
			b.off()
			if p, e := pool.Create(b.r, 40); p != nil || e != api.ErrDown {
				t.Fatal(p, e)
			}
			b.r.Crash(nil)
		}
		p, e := pool.Create(b.r, b.logs)
		want(t, "Create", e, api.OK)
		b.Pool = p
		if is := b.free(); is != free+5*(40-b.logs) || b.r.Pending() > 0 {
			t.Fatal(i, is, free)
		}
		b.cells(t)
		b.does(t, "main", one(step.Create, "/f"), step.Result{N: 2})
		if m := b.fill(t, "main", 900); m < n-2 {
			t.Fatal(i, m, n)
		}
		done(t, b.Fsync())
		is := b.view(t)
		b.imports(t)
		if b.view(t) != is {
			t.Fatal(i, "otherwise behind an Import")
		}
	}
}

// Create on a rack of which more than three drives are lost is refused, and leaves an older pool as it is.
func TestCreateWithFourLost(t *testing.T) {
	b := lay(t, 16, 500, 40)
	b.all(t, "main", one(step.Create, "/f"))
	done(t, b.Sync())
	for drive := range 4 {
		b.r.Lose(drive)
	}
	if p, e := pool.Create(b.r, 40); p != nil || e != api.ErrIO {
		t.Fatal(p, e)
	}
	b.imports(t)
	b.reads(t, "main", "/f", "")
}

// A label's record of a transaction behind which no log can stand is refused; so is a pool behind it.
func TestGreatTransactions(t *testing.T) {
	for _, txg := range []int{1 << 50, 1<<50 + 1, 1 << 60, math.MaxInt - 1, math.MaxInt} {
		b := lay(t, 5, 500, 40)
		u, _ := label.Newest(b.r)
		u.Txg = txg
		_, e := label.Write(b.r, u)
		done(t, e, b.r.Flush())
		if p, e := pool.Create(b.r, 40); p != nil || e != api.ErrArg {
			t.Error("Create", txg, p, e)
		}
		p, e := pool.Import(b.r, 40)
		if txg > 1<<50 {
			if p != nil || e != api.ErrArg {
				t.Error("Import", txg, p, e)
			}
			continue
		}
		want(t, "Import", e, api.OK)
		b.Pool = p
		b.all(t, "main", one(step.Create, "/f"))
		want(t, "Sync", b.Sync(), api.ErrArg)
		want(t, "Snapshot", b.Snapshot("main@a"), api.ErrArg)
		b.lists(t, "main")
		b.reads(t, "main", "/f", "")
		want(t, "Fsync", b.Fsync(), api.OK)
	}
	b := lay(t, 5, 500, 40)
	u, _ := label.Newest(b.r)
	u.Txg = 1<<50 - 2
	_, e := label.Write(b.r, u)
	done(t, e, b.r.Flush())
	b.imports(t)
	b.writes(t, "main", "/f", "abc")
	done(t, b.Sync(), b.Sync())
	want(t, "Sync", b.Sync(), api.ErrArg)
	b.imports(t)
	b.reads(t, "main", "/f", "abc")
}

// A nil pool, and one that neither Create nor Import made: ErrArg, and numbers 0.
func TestNil(t *testing.T) {
	for _, p := range []*pool.Pool{nil, {}} {
		for _, c := range []step.Call{{}, one(step.Create, "/f"), one(step.Stat, "/")} {
			if r := p.Call("main", c); !same(r, step.Result{Err: api.ErrArg}) {
				t.Error(r)
			}
			want(t, "Begin", p.Begin("main", 0, c), api.ErrArg)
		}
		n, e := p.Step("main", 0)
		if n != 0 || e != api.ErrArg {
			t.Error(n, e)
		}
		if r, e := p.Result("main", 0); !same(r, step.Result{}) || e != api.ErrArg {
			t.Error(r, e)
		}
		for _, e := range []api.Errno{p.Fsync(), p.Sync(), p.Snapshot("main@a"), p.Clone("main@a", "b"), p.Destroy("b"), p.Receive("", "b", nil)} {
			want(t, "a nil pool", e, api.ErrArg)
		}
		if l, e := p.List(); len(l) > 0 || e != api.ErrArg {
			t.Error(l, e)
		}
		if s, e := p.Send("", "main@a"); len(s) > 0 || e != api.ErrArg {
			t.Error(s, e)
		}
		if c, e := p.Scrub(""); c != nil || e != api.ErrArg {
			t.Error(c, e)
		}
		if n, all := p.Free(); n != 0 || all != 0 {
			t.Error(n, all)
		}
	}
}

// names that are none, of nothing, and of something.
var names = []string{"", "X", "main@", "@a", "main@a@b", "ma in", "main@A", "123456789", "main@123456789", "/", "\x00", strings.Repeat("main", 9999), "no", "no@a", "main@no", "main", "main@a", "c"}

// P1: all calls end and none panics, at all arguments, and what is refused leaves all as it was.
func TestWild(t *testing.T) {
	b := lay(t, 5, 500, 40)
	b.writes(t, "main", "/f", "abc")
	done(t, b.Snapshot("main@a"), b.Clone("main@a", "c"))
	s := b.sends(t, "", "main@a")
	for _, set := range names {
		for _, n := range wild {
			for kind := -1; kind < 16; kind++ {
				for _, path := range []string{"", "/", "/f", "//", "\x00", "/" + strings.Repeat("a", 17), strings.Repeat("/x", 9)} {
					c := step.Call{Kind: kind, Path: path, To: path, D: n, Off: n, N: n, Data: path}
					b.Call(set, c)
					b.Begin(set, n, c)
				}
			}
			for range 4 {
				b.Step(set, n)
			}
			b.Result(set, n)
		}
		for _, other := range names {
			b.Send(set, other)
			b.Clone(set, other)
			b.Receive(set, other, nil)
			b.Receive(set, other, s)
			b.Receive(set, other, s[1:])
		}
		b.Scrub(set)
		b.Snapshot(set)
	}
	for _, set := range names {
		if set != "main" {
			b.Destroy(set)
		}
	}
	want(t, "Sync", b.Sync(), api.OK)
	b.imports(t)
	b.reads(t, "main@a", "/f", "abc")
	b.cells(t)
}

// P18.5: behind a power that goes off all that reaches the drives answers ErrDown, and so does all behind it.
func TestDown(t *testing.T) {
	for _, ask := range []func(b *bed) api.Errno{
		func(b *bed) api.Errno { return b.Fsync() }, func(b *bed) api.Errno { return b.Sync() }, func(b *bed) api.Errno { return b.Snapshot("main@b") },
		func(b *bed) api.Errno { return b.Clone("main@a", "d") }, func(b *bed) api.Errno { return b.Destroy("c") }, func(b *bed) api.Errno { return b.Receive("", "d", b.sends2()) },
	} {
		b := lay(t, 5, 500, 40)
		b.writes(t, "main", "/f", "abc")
		done(t, b.Snapshot("main@a"), b.Clone("main@a", "c"))
		b.all(t, "main", one(step.Create, "/g"))
		b.off()
		want(t, "without power", ask(b), api.ErrDown)
		for _, e := range []api.Errno{
			b.Begin("main", 0, step.Call{}), b.Call("main", one(step.Create, "/h")).Err, b.Snapshot("no"),
			b.Fsync(), b.Sync(), b.Snapshot("main@b"), b.Clone("main@a", "d"), b.Destroy("c"), b.Receive("", "d", nil),
		} {
			want(t, "behind it", e, api.ErrDown)
		}
		b.Free()
		b.r.Crash(nil)
		want(t, "with the power on", b.Sync(), api.ErrDown)
		b.imports(t)
		b.lists(t, "c", "main", "main@a")
		b.reads(t, "main", "/f", "abc")
	}
}

// sends2 is the stream of a snapshot, or nothing without power.
func (b *bed) sends2() []byte {
	s, _ := b.Send("", "main@a")
	return s
}

// P18.1: an answer is new memory, and what is handed in isn't changed.
func TestMemory(t *testing.T) {
	b := lay(t, 5, 500, 40)
	b.writes(t, "main", "/f", "abc")
	want(t, "Snapshot", b.Snapshot("main@a"), api.OK)
	s := b.sends(t, "", "main@a")
	room := append(slices.Clone(s), "spare"...)
	want(t, "Receive", b.Receive("", "c", room[:len(s)]), api.OK)
	if string(room) != string(s)+"spare" {
		t.Error("what was handed in is others")
	}
	l, _ := b.List()
	clear(l)
	clear(s)
	clear(room)
	b.lists(t, "c", "main", "main@a")
	names := b.Call("main", one(step.List, "/")).Names
	clear(names)
	b.does(t, "main", one(step.List, "/"), step.Result{Names: []string{"f"}})
	b.reads(t, "c", "/f", "abc")
	if x := b.sends(t, "", "main@a"); len(x) != len(s) || bytes.Equal(x, s) {
		t.Error("a stream that is changed")
	}
	c, e := b.Scrub("")
	want(t, "Scrub", e, api.OK)
	c.Step(9)
	other, e := b.Scrub("")
	want(t, "Scrub", e, api.OK)
	if c == other || other.Report().Done != 0 {
		t.Error("two scrubs in one")
	}
	var none *scrub.Scrub
	if c == none {
		t.Error("no scrub")
	}
}

// An Import of a root that stands in no tree of worlds: the calls there are refused.
func TestNoWorld(t *testing.T) {
	b := lay(t, 5, 500, 40)
	s := streamOf(t, api.Pair{Key: "k", Val: "v"})
	want(t, "Receive", b.Receive("", "c", s), api.ErrForm)
	b.lists(t, "main")
	want(t, "Receive", b.Receive("", "c", streamOf(t)), api.OK)
	b.does(t, "c", one(step.Create, "/f"), step.Result{N: 2})
	want(t, "Sync", b.Sync(), api.OK)
	b.imports(t)
	b.reads(t, "c", "/f", "")
}

// streamOf is the stream of a tree with some pairs, in their order, from the tree without any.
func streamOf(t *testing.T, l ...api.Pair) []byte {
	t.Helper()
	items := []api.Item{{Kind: 1, N: 88}, text(digest(nil)), text(digest(l))}
	for _, p := range l {
		items = append(items, text(p.Key), api.Item{Kind: 1, N: 1}, text(p.Val))
	}
	b, e := pack.Encode(items)
	want(t, "Encode", e, api.OK)
	return sha.Seal(b)
}
