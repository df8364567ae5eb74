package dataset_test

import (
	"fmt"
	"math"
	"slices"
	"strings"
	"testing"

	"hoard/api"
	"hoard/dataset"
	"hoard/store"
	"hoard/tree"
)

// The chapter's example.
func TestExample(t *testing.T) {
	b := lay(t, 5, 400)
	d := b.open(t, api.Ptr{})
	all(t, d.Create("a"))
	puts(t, d, "a", "k", "1")
	all(t, d.Snapshot("a@x"))
	puts(t, d, "a", "k", "2")
	all(t, d.Clone("a@x", "b"))
	tells(t, d, "b", map[string]string{"k": "1"})
	lists(t, d, "a", "a@x", "b")
	want(t, "Destroy", d.Destroy("a@x"), api.ErrBusy)
	want(t, "Destroy", d.Destroy("a"), api.ErrBusy)
	all(t, d.Destroy("b"), d.Destroy("a@x"))
	want(t, "Create", d.Create("A"), api.ErrName)
	want(t, "Snapshot", d.Snapshot("c@x"), api.ErrMiss)
	tells(t, d, "a", map[string]string{"k": "2"})
}

// P12.1: what names are.
func TestName(t *testing.T) {
	good := []string{"a", "z", "0", "9", "main", "12345678", "abcdefgh"}
	bad := []string{"", "A", "-", " ", "a ", " a", "a b", "a\x00", "ä", "abcdefghi", "a/b", "`", "{", "/", ":", "\xff", long(1000)}
	is := func(s string, set, snap bool) {
		t.Helper()
		if x, y := dataset.Name(s); x != set || y != snap {
			t.Errorf("Name(%q) = %t, %t", s, x, y)
		}
	}
	for _, x := range good {
		is(x, true, false)
		for _, y := range good {
			is(x+"@"+y, false, true)
			is(x+"@"+y+"@", false, false)
			is(x+"@"+y+"@"+x, false, false)
		}
		for _, y := range bad {
			is(x+"@"+y, false, false)
			is(y+"@"+x, false, false)
			is(y+"@"+y, false, false)
		}
	}
	for _, x := range bad {
		is(x, false, false)
	}
	is("@", false, false)
	for c := range 256 {
		s := string([]byte{byte(c)})
		ok := strings.Contains("abcdefghijklmnopqrstuvwxyz0123456789", s)
		is(s, ok, false)
		is("a"+s+"b", ok, c == '@')
		is("a@"+s, false, ok)
	}
}

// laid is some datasets: a with the snapshots x and y, b, which was cloned from a@x, and c, which has no pairs.
func laid(t *testing.T, b bed) *dataset.Sets {
	t.Helper()
	d := b.open(t, api.Ptr{})
	all(t, d.Create("a"))
	puts(t, d, "a", "k", "1")
	all(t, d.Snapshot("a@x"))
	puts(t, d, "a", "k", "2")
	all(t, d.Snapshot("a@y"), d.Clone("a@x", "b"), d.Create("c"))
	puts(t, d, "b", "l", "3")
	return d
}

// P12.1: errors, in their order; nothing is changed by any.
func TestErrors(t *testing.T) {
	b := lay(t, 5, 400)
	d := laid(t, b)
	root := syncs(t, d)
	b.Settle()
	used := b.Used()
	none := []string{"", "A", "a@", "@x", "a@X", "a@x@y", "abcdefghi", "a@abcdefghi", "a b"}
	for _, s := range none {
		want(t, "Destroy "+s, d.Destroy(s), api.ErrName)
		refusesTree(t, d, s, api.ErrName)
	}
	for _, s := range append(none, "a@x", "q@x") {
		want(t, "Create "+s, d.Create(s), api.ErrName)
		want(t, "Clone to "+s, d.Clone("a@x", s), api.ErrName)
		want(t, "Clone to "+s, d.Clone("q@x", s), api.ErrName)
	}
	for _, s := range append(none, "a", "q") {
		want(t, "Snapshot "+s, d.Snapshot(s), api.ErrName)
		want(t, "Clone "+s, d.Clone(s, "q"), api.ErrName)
		want(t, "Clone "+s, d.Clone(s, "a"), api.ErrName)
		refusesRoot(t, d, s, api.ErrName)
	}
	for _, s := range []string{"q@x", "a@z", "b@x", "c@x"} {
		want(t, "Destroy "+s, d.Destroy(s), api.ErrMiss)
		want(t, "Clone "+s, d.Clone(s, "q"), api.ErrMiss)
		want(t, "Clone "+s, d.Clone(s, "a"), api.ErrMiss)
		refusesTree(t, d, s, api.ErrMiss)
		refusesRoot(t, d, s, api.ErrMiss)
	}
	want(t, "Destroy q", d.Destroy("q"), api.ErrMiss)
	refusesTree(t, d, "q", api.ErrMiss)
	want(t, "Snapshot", d.Snapshot("q@x"), api.ErrMiss)
	want(t, "Snapshot", d.Snapshot("a@x"), api.ErrThere)
	for _, s := range []string{"a", "b", "c"} {
		want(t, "Create", d.Create(s), api.ErrThere)
		want(t, "Clone", d.Clone("a@y", s), api.ErrThere)
	}
	want(t, "Destroy", d.Destroy("a"), api.ErrBusy)
	want(t, "Destroy", d.Destroy("a@x"), api.ErrBusy)
	lists(t, d, "a", "a@x", "a@y", "b", "c")
	if again := syncs(t, d); again != root || !slices.Equal(b.Used(), used) || b.Settle() != 0 || b.Txg() != 3 {
		t.Error(tell(root), tell(again), b.Used(), b.Txg())
	}
}

// refusesTree holds Tree to an error.
func refusesTree(t *testing.T, d *dataset.Sets, name string, must api.Errno) {
	t.Helper()
	if x, e := d.Tree(name); x != nil || e != must {
		t.Errorf("Tree(%q): %v, %d", name, x, e)
	}
}

// refusesRoot holds Root to an error.
func refusesRoot(t *testing.T, d *dataset.Sets, name string, must api.Errno) {
	t.Helper()
	if p, n, e := d.Root(name); p != (api.Ptr{}) || n != 0 || e != must {
		t.Errorf("Root(%q): %s, %d, %d", name, tell(p), n, e)
	}
}

// P12.1: as many as there may be, and one more, of each kind; what is destroyed makes room.
func TestBig(t *testing.T) {
	for snaps := range api.MaxSets {
		b := lay(t, 5, 400)
		d := b.open(t, api.Ptr{})
		all(t, d.Create("a"))
		for i := range snaps {
			all(t, d.Snapshot(fmt.Sprint("a@", i)))
		}
		for i := snaps + 1; i < api.MaxSets; i++ {
			if snaps > 0 && i%2 > 0 {
				all(t, d.Clone("a@0", fmt.Sprint("b", i)))
			} else {
				all(t, d.Create(fmt.Sprint("b", i)))
			}
		}
		for range 2 {
			txg := b.Txg()
			want(t, "Create", d.Create("c"), api.ErrBig)
			want(t, "Create", d.Create("a"), api.ErrThere)
			want(t, "Snapshot", d.Snapshot("a@c"), api.ErrBig)
			want(t, "Snapshot", d.Snapshot("c@c"), api.ErrMiss)
			want(t, "Clone", d.Clone("a@c", "c"), api.ErrMiss)
			if snaps > 0 {
				want(t, "Clone", d.Clone("a@0", "c"), api.ErrBig)
				want(t, "Clone", d.Clone("a@0", "a"), api.ErrThere)
				want(t, "Snapshot", d.Snapshot("a@0"), api.ErrThere)
			}
			if l, e := d.List(); len(l) != api.MaxSets || e != api.OK || b.Txg() != txg {
				t.Error(l, e, b.Txg())
			}
			d = b.open(t, syncs(t, d))
		}
		name := fmt.Sprint("b", api.MaxSets-1)
		if snaps == api.MaxSets-1 {
			name = fmt.Sprint("a@", snaps-1)
		}
		all(t, d.Destroy(name), d.Create("c"))
		want(t, "Create", d.Create("d"), api.ErrBig)
	}
}

// P12.1: what is needed still.
func TestBusy(t *testing.T) {
	b := lay(t, 5, 400)
	d := laid(t, b)
	all(t, d.Snapshot("b@x"), d.Clone("b@x", "d"), d.Clone("a@x", "e"))
	busy := func(names ...string) {
		t.Helper()
		for _, s := range names {
			want(t, "Destroy "+s, d.Destroy(s), api.ErrBusy)
		}
	}
	d = b.open(t, syncs(t, d))
	busy("a", "a@x", "b", "b@x")
	all(t, d.Destroy("a@y"))
	busy("a", "a@x", "b", "b@x")
	all(t, d.Destroy("d"), d.Destroy("b@x"))
	busy("a", "a@x")
	all(t, d.Destroy("b"))
	busy("a", "a@x")
	all(t, d.Destroy("e"), d.Destroy("a@x"), d.Destroy("a"))
	lists(t, d, "c")
	want(t, "Destroy", d.Destroy("a"), api.ErrMiss)
}

// P12.1: a nil one, and one that Open didn't make.
func TestNil(t *testing.T) {
	for _, d := range []*dataset.Sets{nil, {}} {
		for _, s := range []string{"a", "a@x", ""} {
			want(t, "Create", d.Create(s), api.ErrArg)
			want(t, "Snapshot", d.Snapshot(s), api.ErrArg)
			want(t, "Clone", d.Clone(s, "b"), api.ErrArg)
			want(t, "Destroy", d.Destroy(s), api.ErrArg)
			refusesTree(t, d, s, api.ErrArg)
			refusesRoot(t, d, s, api.ErrArg)
		}
		if l, e := d.List(); len(l) != 0 || e != api.ErrArg {
			t.Error(l, e)
		}
		if p, e := d.Sync(); p != (api.Ptr{}) || e != api.ErrArg {
			t.Error(tell(p), e)
		}
	}
	for _, p := range []api.Ptr{{}, {Addr: 1, Size: 1, Birth: 1, Sum: long(32)}} {
		if d, e := dataset.Open(nil, p); d != nil || e != api.ErrArg {
			t.Error(d, e)
		}
		if l, e := dataset.Reach(nil, p); len(l) != 0 || e != api.ErrArg {
			t.Error(l, e)
		}
	}
}

// P1: a store that New didn't make answers nothing: no call panics.
func TestNoStore(t *testing.T) {
	d, e := dataset.Open(&store.Store{}, api.Ptr{})
	if e != api.OK {
		return
	}
	all(t, d.Create("a"))
	puts(t, d, "a", "k", "1")
	want(t, "Snapshot", d.Snapshot("a@x"), api.ErrArg)
	if p, e := d.Sync(); p != (api.Ptr{}) || e != api.ErrArg {
		t.Error(tell(p), e)
	}
	lists(t, d, "a")
}

// P12.1: the names rise byte by byte.
func TestList(t *testing.T) {
	b := lay(t, 5, 400)
	d := b.open(t, api.Ptr{})
	lists(t, d)
	for _, s := range []string{"b", "a", "a0", "ab", "9"} {
		all(t, d.Create(s))
	}
	for _, s := range []string{"ab@z", "a@z", "a0@0", "a@0", "9@a"} {
		all(t, d.Snapshot(s))
	}
	must := []string{"9", "9@a", "a", "a0", "a0@0", "a@0", "a@z", "ab", "ab@z", "b"}
	lists(t, d, must...)
	lists(t, b.open(t, syncs(t, d)), must...)
}

// P12.1, P12.2: a dataset has one tree, a snapshot's is its asker's own, and what was destroyed is there no more.
func TestTree(t *testing.T) {
	b := lay(t, 5, 400)
	d := laid(t, b)
	a, old := treeOf(t, d, "a"), treeOf(t, d, "a@x")
	want(t, "Put", old.Put("k", "9"), api.OK)
	tells(t, d, "a@x", map[string]string{"k": "1"})
	puts(t, d, "a", "m", "4")
	all(t, d.Snapshot("a@z"))
	syncs(t, d)
	if a != treeOf(t, d, "a") || a.Dirty() {
		t.Error("a has another tree, or it isn't written")
	}
	holds(t, "a", a, map[string]string{"k": "2", "m": "4"})
	tells(t, d, "a@x", map[string]string{"k": "1"})
	tells(t, d, "a@y", map[string]string{"k": "2"})
	tells(t, d, "a@z", map[string]string{"k": "2", "m": "4"})
	tells(t, d, "b", map[string]string{"k": "1", "l": "3"})
	c := treeOf(t, d, "c")
	puts(t, d, "c", "x", "1")
	all(t, d.Destroy("c"), d.Create("c"))
	want(t, "Put", c.Put("y", "1"), api.OK)
	tells(t, d, "c", nil)
	root := syncs(t, d)
	b.justThese(t, root)
	tells(t, b.open(t, root), "c", nil)
}

// P12.1: Snapshot writes the tree, and begins the next transaction; Root tells what it wrote, and in which one.
func TestRoot(t *testing.T) {
	b := lay(t, 5, 400)
	want(t, "Begin", b.Begin(7), api.OK)
	d := b.open(t, api.Ptr{})
	all(t, d.Create("a"), d.Snapshot("a@w"))
	pasts := []map[string]string{{}}
	for i := range 4 {
		puts(t, d, "a", num(i), "v")
		m := map[string]string{}
		for j := range i + 1 {
			m[num(j)] = "v"
		}
		pasts = append(pasts, m)
		if i == 2 {
			want(t, "Begin", b.Begin(20), api.OK)
		}
		all(t, d.Snapshot("a@"+num(i)))
		if treeOf(t, d, "a").Dirty() {
			t.Error("the tree isn't written")
		}
	}
	must := map[string]int{"a@w": 7, "a@0000": 8, "a@0001": 9, "a@0002": 20, "a@0003": 21}
	if b.Txg() != 22 {
		t.Error(b.Txg())
	}
	for range 2 {
		for i, s := range []string{"a@w", "a@0000", "a@0001", "a@0002", "a@0003"} {
			p, txg, e := d.Root(s)
			if txg != must[s] || e != api.OK || i > 0 && p.Birth != txg {
				t.Error(s, tell(p), txg, e)
			}
			x, e := tree.Open(b.Store, p)
			want(t, "tree.Open", e, api.OK)
			holds(t, s, x, pasts[i])
		}
		d = b.open(t, syncs(t, d))
	}
}

// P12.1: where no next transaction is to be had, there is no snapshot, and nothing is changed.
func TestLastTxg(t *testing.T) {
	b := lay(t, 5, 400)
	d := b.open(t, api.Ptr{})
	all(t, d.Create("a"))
	puts(t, d, "a", "k", "1")
	want(t, "Begin", b.Begin(math.MaxInt-1), api.OK)
	all(t, d.Snapshot("a@x"))
	puts(t, d, "a", "k", "2")
	for range 2 {
		want(t, "Snapshot", d.Snapshot("a@x"), api.ErrThere)
		want(t, "Snapshot", d.Snapshot("a@y"), api.ErrArg)
		want(t, "Snapshot", d.Snapshot("b@y"), api.ErrMiss)
		root := syncs(t, d)
		b.justThese(t, root)
		d = b.open(t, root)
		lists(t, d, "a", "a@x")
		tells(t, d, "a@x", map[string]string{"k": "1"})
		tells(t, d, "a", map[string]string{"k": "2"})
	}
	all(t, d.Destroy("a@x"), d.Destroy("a"))
	if p := syncs(t, d); p != (api.Ptr{}) || len(b.Used()) > 0 {
		t.Error(tell(p), b.Used())
	}
}

// P12.5: answers are new memory.
func TestMemory(t *testing.T) {
	b := lay(t, 5, 400)
	d := laid(t, b)
	root := syncs(t, d)
	for range 2 {
		l, e := d.List()
		want(t, "List", e, api.OK)
		clear(l[:cap(l)])
		lists(t, d, "a", "a@x", "a@y", "b", "c")
	}
	must := b.reach(t, root)
	l := b.reach(t, root)
	clear(l[:cap(l)])
	if again := b.reach(t, root); len(must) == 0 || !slices.Equal(again, must) {
		t.Error(again)
	}
}
