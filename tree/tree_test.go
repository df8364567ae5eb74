package tree_test

import (
	"maps"
	"math"
	"slices"
	"testing"

	"hoard/api"
	"hoard/store"
	"hoard/tree"
)

// The chapter's example.
func TestExample(t *testing.T) {
	b := lay(t, 5, 100)
	x := b.open(t, api.Ptr{})
	puts(t, x, "b", "2", "a", "1")
	p, gone := syncs(t, x)
	if len(gone) != 0 || p == (api.Ptr{}) {
		t.Error(tell(p), tellAll(gone))
	}
	puts(t, x, "a", "3")
	q, gone := syncs(t, x)
	if len(gone) != 1 || gone[0] != p {
		t.Error(tell(p), tellAll(gone))
	}
	tells(t, "the tree of p", b.open(t, p), map[string]string{"a": "1", "b": "2"})
	c, e := tree.Changes(b.Store, p, q)
	if e != api.OK || !slices.Equal(c, []tree.Change{{Key: "a", Val: "3", New: true}}) {
		t.Error(c, e)
	}
	drops(t, x, "a", "b")
	if p, gone := syncs(t, x); p != (api.Ptr{}) || len(gone) != 1 || gone[0] != q {
		t.Error(tell(p), tellAll(gone))
	}
	gets(t, x, nil, "x")
}

// P10.1: keys of 1 to 24 bytes, values of none to 300, and no others.
func TestForm(t *testing.T) {
	b := lay(t, 5, 100)
	x := b.open(t, api.Ptr{})
	m := map[string]string{}
	for _, c := range []struct {
		key, val int
		must     api.Errno
	}{
		{0, 0, api.ErrForm}, {0, 1, api.ErrForm}, {1, 0, api.OK}, {24, 0, api.OK}, {25, 0, api.ErrForm},
		{2, 299, api.OK}, {3, 300, api.OK}, {4, 301, api.ErrForm}, {23, 300, api.OK}, {1000, 1000, api.ErrForm},
		{5, 100000, api.ErrForm}, {100000, 5, api.ErrForm}, {0, 301, api.ErrForm}, {24, 300, api.OK}, {24, 301, api.ErrForm},
	} {
		was := x.Dirty()
		if e := x.Put(long(c.key), long(c.val)); e != c.must {
			t.Errorf("Put of %d and %d bytes: %d", c.key, c.val, e)
		}
		if c.must == api.OK {
			m[long(c.key)] = long(c.val)
		} else if x.Dirty() != was {
			t.Error("a Put that is refused counts as a change")
		}
		tells(t, "what was put", x, m)
	}
	p, _ := syncs(t, x)
	tells(t, "what was synced", b.open(t, p), m)
}

// P10.1: keys and values of any bytes, in the order of the bytes.
func TestBytes(t *testing.T) {
	b := lay(t, 5, 400)
	x := b.open(t, api.Ptr{})
	m := map[string]string{}
	for c := range 256 {
		for _, k := range []string{string([]byte{byte(c)}), string([]byte{byte(c), 0}), string([]byte{'a', byte(c), 255})} {
			puts(t, x, k, k+k)
			m[k] = k + k
		}
	}
	tells(t, "what was put", x, m)
	p, _ := syncs(t, x)
	tells(t, "what was synced", b.open(t, p), m)
	for _, k := range []string{"\x00", "\xff", "a\x80\xff", "\x00\x00", "\xff\x00"} {
		gets(t, x, m, k)
		ranges(t, x, m, k, "", 5)
		ranges(t, x, m, "", k, 1000)
	}
	gets(t, x, m, "\xff\xff")
	gets(t, x, m, "\x00\x00\x00")
}

// P10.1: what isn't there isn't got, nor dropped, whatever is asked.
func TestMiss(t *testing.T) {
	b := lay(t, 5, 400)
	odd := []string{"", " ", "00000", "5", "zzz", "\xff", long(24), long(25), long(5000)}
	for _, n := range []int{0, 1, 3, 500} {
		x := b.open(t, api.Ptr{})
		for i := range n {
			puts(t, x, num(2*i), long(i%300))
		}
		syncs(t, x)
		for _, k := range append(odd, num(1), num(2*n), num(2*n+1), num(n|1)) {
			if v, e := x.Get(k); v != "" || e != api.ErrMiss {
				t.Errorf("Get(%.30q): %q, %d", k, v, e)
			}
			if e := x.Drop(k); e != api.ErrMiss || x.Dirty() {
				t.Errorf("Drop(%.30q): %d, %v", k, e, x.Dirty())
			}
		}
	}
}

// P10.1: Range's ends and counts, of trees of one block and of many, written or not.
func TestRange(t *testing.T) {
	b := lay(t, 5, 1000)
	for _, n := range []int{0, 1, 2, 5, 400} {
		x := b.open(t, api.Ptr{})
		m := map[string]string{}
		for i := range n {
			puts(t, x, num(2*i+1), long(i%200))
			m[num(2*i+1)] = long(i % 200)
		}
		ends := []string{"", "0", num(0), num(1), num(2), num(3), num(n), num(n + 1), num(2*n - 1), num(2 * n), "9", long(500), "\xff\xff"}
		for range 2 {
			for _, from := range ends {
				for _, to := range ends {
					for _, most := range []int{0, 1, 2, 7, n, n + 1, math.MaxInt} {
						ranges(t, x, m, from, to, most)
					}
				}
			}
			syncs(t, x)
		}
		for _, most := range []int{-1, -7, math.MinInt} {
			if l, e := x.Range("", "", most); len(l) != 0 || e != api.ErrArg {
				t.Errorf("Range of %d: %v, %d", most, l, e)
			}
		}
	}
}

// P10.1: Dirty tells of what was put and dropped since the last Sync, and not of what was refused.
func TestDirty(t *testing.T) {
	b := lay(t, 5, 100)
	x := b.open(t, api.Ptr{})
	dirty := func(what string, must bool) {
		t.Helper()
		if x.Dirty() != must || x.Copy().Dirty() != must {
			t.Error(what, x.Dirty(), x.Copy().Dirty())
		}
	}
	dirty("a new tree", false)
	x.Drop("a")
	x.Put("", "")
	x.Get("a")
	x.Range("", "", 5)
	x.Range("", "", -5)
	dirty("what was refused", false)
	syncs(t, x)
	puts(t, x, "a", "1")
	dirty("a Put", true)
	p, _ := syncs(t, x)
	dirty("a Sync", false)
	puts(t, x, "a", "1")
	dirty("a Put of the pair that is there", true)
	q, gone := syncs(t, x)
	if l := b.blocks(t, q); len(l) != 1 || q == p && len(gone) != 0 || q != p && !slices.Equal(gone, []api.Ptr{p}) {
		t.Error(tell(p), tell(q), tellAll(gone))
	}
	drops(t, x, "a")
	dirty("a Drop", true)
	x.Drop("a")
	dirty("a Drop, and one that is refused", true)
	puts(t, x, "a", "1")
	dirty("a Drop and a Put", true)
	syncs(t, x)
	dirty("a Sync", false)
	if y := b.open(t, p); y.Dirty() {
		t.Error("a tree that was opened is dirty")
	}
}

// P10.1: what is put and dropped again leaves the tree without pairs, and no blocks.
func TestBack(t *testing.T) {
	b := lay(t, 5, 100)
	x := b.open(t, api.Ptr{})
	puts(t, x, "a", "1", "b", "2")
	drops(t, x, "b", "a")
	if p, gone := syncs(t, x); p != (api.Ptr{}) || len(gone) != 0 || b.Counts().Puts != 0 {
		t.Error(tell(p), tellAll(gone), b.Counts())
	}
	if p, gone := syncs(t, x); p != (api.Ptr{}) || len(gone) != 0 {
		t.Error(tell(p), tellAll(gone))
	}
}

// P10.1, P10.2: a Copy has the same pairs, and goes its own way, as does what it was made of.
func TestCopy(t *testing.T) {
	b := lay(t, 8, 1000)
	x := b.open(t, api.Ptr{})
	m := map[string]string{}
	for i := range 300 {
		puts(t, x, num(i), long(i%100))
		m[num(i)] = long(i % 100)
	}
	root, _ := syncs(t, x)
	puts(t, x, num(5), "not written", "new", "too")
	m[num(5)], m["new"] = "not written", "too"
	y, n := x.Copy(), maps.Clone(m)
	tells(t, "a copy", y, m)
	puts(t, x, num(6), "x", "x", "x")
	m[num(6)], m["x"] = "x", "x"
	drops(t, y, num(6), num(290), num(5))
	delete(n, num(6))
	delete(n, num(290))
	delete(n, num(5))
	tells(t, "the tree", x, m)
	tells(t, "the copy", y, n)
	old := b.blocks(t, root)
	for _, c := range []struct {
		x *tree.Tree
		m map[string]string
	}{{y, n}, {x, m}} {
		p, gone := syncs(t, c.x)
		now := b.blocks(t, p)
		slices.SortFunc(gone, byAddr)
		if !slices.Equal(gone, without(old, now)) {
			t.Errorf("gone are %s, not %s", tellAll(gone), tellAll(without(old, now)))
		}
		tells(t, "what was synced", b.open(t, p), c.m)
	}
	tells(t, "the tree", x, m)
	tells(t, "the copy", y, n)
	tells(t, "the old root", b.open(t, root).Copy(), func() map[string]string {
		was := map[string]string{}
		for i := range 300 {
			was[num(i)] = long(i % 100)
		}
		return was
	}())
}

// P1: nil and zero objects, and extreme pointers.
func TestNil(t *testing.T) {
	if x, e := tree.Open(nil, api.Ptr{}); x != nil || e != api.ErrArg {
		t.Error("Open", x, e)
	}
	if l, e := tree.Blocks(nil, api.Ptr{}); l != nil || e != api.ErrArg {
		t.Error("Blocks", l, e)
	}
	if l, e := tree.Changes(nil, api.Ptr{}, api.Ptr{}); l != nil || e != api.ErrArg {
		t.Error("Changes", l, e)
	}
	for _, x := range []*tree.Tree{nil, new(tree.Tree)} {
		if x.Copy() != nil || x.Dirty() {
			t.Error("Copy or Dirty")
		}
		if v, e := x.Get("a"); v != "" || e != api.ErrArg {
			t.Error("Get", v, e)
		}
		want(t, "Put", x.Put("a", "b"), api.ErrArg)
		want(t, "Put", x.Put("", ""), api.ErrArg)
		want(t, "Drop", x.Drop("a"), api.ErrArg)
		for _, most := range []int{-1, 0, 5} {
			if l, e := x.Range("", "", most); l != nil || e != api.ErrArg {
				t.Error("Range", l, e)
			}
		}
		if p, l, e := x.Sync(); p != (api.Ptr{}) || l != nil || e != api.ErrArg {
			t.Error("Sync", p, l, e)
		}
	}
}

// P1: roots that are none, and a store that New didn't make: each call ends, with an error, and changes nothing.
func TestNoRoots(t *testing.T) {
	b := lay(t, 5, 100)
	good, e := b.Put([]byte("abc"))
	want(t, "Put", e, api.OK)
	used := b.Used()
	for _, p := range []api.Ptr{
		{Addr: 1}, {Size: 1}, {Birth: 1}, {Sum: "x"}, {Sum: long(32)}, {Size: 3, Sum: long(32)},
		{Addr: math.MaxInt, Size: math.MaxInt, Birth: math.MaxInt, Sum: long(32)},
		{Addr: math.MinInt, Size: math.MinInt, Birth: math.MinInt, Sum: long(32)},
		{Addr: -1, Size: 5, Birth: 1, Sum: long(32)}, {Addr: 1 << 40, Size: 5, Birth: 1, Sum: long(32)},
		good, {Addr: good.Addr, Size: good.Size, Birth: math.MinInt, Sum: good.Sum},
	} {
		refused(t, b.Store, p, func(e api.Errno) bool { return e != api.OK && e != api.ErrMiss })
		refused(t, new(store.Store), p, func(e api.Errno) bool { return e == api.ErrArg })
	}
	if !slices.Equal(b.Used(), used) {
		t.Error("used are", b.Used())
	}
	x, _ := tree.Open(new(store.Store), api.Ptr{})
	if x.Put("a", "b") == api.OK {
		if p, l, e := x.Sync(); e != api.ErrArg || p != (api.Ptr{}) || l != nil {
			t.Error("Sync", p, l, e)
		}
	}
}

// refused holds all calls that need a root's block to an error, and nothing else.
func refused(t *testing.T, s *store.Store, p api.Ptr, is func(api.Errno) bool) {
	t.Helper()
	x, e := tree.Open(s, p)
	if e != api.OK {
		if !is(e) {
			t.Errorf("Open(%s): %d", tell(p), e)
		}
		return
	}
	v, e := x.Get("a")
	if v != "" || !is(e) {
		t.Errorf("Get in %s: %q, %d", tell(p), v, e)
	}
	if e := x.Put("a", "b"); !is(e) {
		t.Errorf("Put in %s: %d", tell(p), e)
	}
	if e := x.Drop("a"); !is(e) {
		t.Errorf("Drop in %s: %d", tell(p), e)
	}
	if l, e := x.Range("", "", 3000); l != nil || !is(e) {
		t.Errorf("Range in %s: %v, %d", tell(p), l, e)
	}
	if l, e := tree.Blocks(s, p); l != nil || !is(e) {
		t.Errorf("Blocks of %s: %v, %d", tell(p), l, e)
	}
	if l, e := tree.Changes(s, p, api.Ptr{}); l != nil || !is(e) {
		t.Errorf("Changes from %s: %v, %d", tell(p), l, e)
	}
	if l, e := tree.Changes(s, api.Ptr{}, p); l != nil || !is(e) {
		t.Errorf("Changes to %s: %v, %d", tell(p), l, e)
	}
	if q, gone, e := x.Sync(); x.Dirty() || q != p || gone != nil || e != api.OK {
		t.Errorf("what was refused changed %s: %v, %s, %s, %d", tell(p), x.Dirty(), tell(q), tellAll(gone), e)
	}
}

// P10.5: answers are new memory.
func TestMemory(t *testing.T) {
	b := lay(t, 5, 400)
	x := b.open(t, api.Ptr{})
	m := map[string]string{}
	for i := range 60 {
		puts(t, x, num(i), long(60))
		m[num(i)] = long(60)
	}
	root, _ := syncs(t, x)
	puts(t, x, num(7), "7", num(50), "50")
	m[num(7)], m[num(50)] = "7", "50"
	y := x.Copy()
	for range 2 {
		l, e := x.Range("", "", 100)
		want(t, "Range", e, api.OK)
		clear(l[:cap(l)])
		tells(t, "the tree", x, m)
	}
	p, gone := syncs(t, x)
	must := slices.Clone(gone)
	clear(gone[:cap(gone)])
	if _, gone := syncs(t, y); !slices.Equal(gone, must) {
		t.Error("the copy's blocks that it left are", tellAll(gone))
	}
	all := b.blocks(t, p)
	l, _ := tree.Blocks(b.Store, p)
	clear(l[:cap(l)])
	if again := b.blocks(t, p); !slices.Equal(again, all) {
		t.Error("Blocks are", tellAll(again))
	}
	c, _ := tree.Changes(b.Store, root, p)
	clear(c[:cap(c)])
	c, _ = tree.Changes(b.Store, root, p)
	if !slices.Equal(c, []tree.Change{{Key: num(7), Val: "7", New: true}, {Key: num(50), Val: "50", New: true}}) {
		t.Error("Changes are", c)
	}
	tells(t, "the tree", x, m)
	tells(t, "the copy", y, m)
}
