package dataset_test

import (
	"slices"
	"testing"

	"hoard/api"
	"hoard/dataset"
)

// P12.2, P12.4: though any three drives are lost, all is there; what is changed then too.
func TestLost(t *testing.T) {
	for i := range 6 {
		for j := range i {
			for k := range j {
				b := lay(t, 6, 400)
				d := laid(t, b)
				root := syncs(t, d)
				want(t, "Flush", b.r.Flush(), api.OK)
				b.Settle()
				for _, n := range []int{i, j, k} {
					want(t, "Lose", b.r.Lose(n), api.OK)
				}
				b = b.anew(t, root, 9)
				d = b.open(t, root)
				stillLaid(t, d)
				puts(t, d, "a", "k", "5")
				all(t, d.Snapshot("a@z"), d.Destroy("a@y"), d.Clone("a@z", "e"), d.Destroy("c"))
				root = syncs(t, d)
				b.justThese(t, root)
				b.Settle()
				b = b.anew(t, root, b.Txg())
				d = b.open(t, root)
				lists(t, d, "a", "a@x", "a@z", "b", "e")
				tells(t, d, "a", map[string]string{"k": "5"})
				tells(t, d, "e", map[string]string{"k": "5"})
				tells(t, d, "b", map[string]string{"k": "1", "l": "3"})
			}
		}
	}
}

// stillLaid holds datasets to what laid made.
func stillLaid(t *testing.T, d *dataset.Sets) {
	t.Helper()
	lists(t, d, "a", "a@x", "a@y", "b", "c")
	tells(t, d, "a", map[string]string{"k": "2"})
	tells(t, d, "a@x", map[string]string{"k": "1"})
	tells(t, d, "a@y", map[string]string{"k": "2"})
	tells(t, d, "b", map[string]string{"k": "1", "l": "3"})
	tells(t, d, "c", nil)
}

// P6, P12.2: though four drives are lost, what is told is right, or an error; what is refused has changed nothing.
func TestTooManyLost(t *testing.T) {
	b := lay(t, 9, 800)
	d := laid(t, b)
	m := fills(t, d, "c", 100, long(100))
	all(t, d.Snapshot("c@x"))
	root := syncs(t, d)
	b.Settle()
	used := b.Used()
	for i := range 4 {
		want(t, "Lose", b.r.Lose(i), api.OK)
	}
	b.refusesIO(t, root)
	c := b.with(t, used, 9)
	old := d
	lists(t, old, "a", "a@x", "a@y", "b", "c", "c@x")
	if d, e := dataset.Open(c.Store, root); e == api.OK {
		lists(t, d, "a", "a@x", "a@y", "b", "c", "c@x")
		for _, s := range []string{"c", "c@x"} {
			l, e := treeOf(t, d, s).Range("", "", 1000)
			if e != api.ErrIO && (e != api.OK || !slices.Equal(l, pairsOf(m))) {
				t.Error(s, len(l), e)
			}
		}
		if e := d.Destroy("b"); e != api.OK && !slices.Equal(c.Used(), used) {
			t.Error(e, c.Used())
		}
	} else if d != nil || e != api.ErrIO {
		t.Error(d, e)
	}
}

// refusesIO wants a store that remembers nothing not to read a root that is lost.
func (b bed) refusesIO(t *testing.T, root api.Ptr) {
	t.Helper()
	b = b.with(t, nil, 9)
	if l, e := dataset.Reach(b.Store, root); e != api.ErrIO || len(l) > 0 {
		t.Error(len(l), e)
	}
}

// P12.1, P6: a dataset whose blocks can't be told any longer isn't destroyed: nothing of it is given back.
func TestLostDestroy(t *testing.T) {
	b := lay(t, 9, 800)
	d := b.open(t, api.Ptr{})
	all(t, d.Create("a"), d.Create("b"))
	fills(t, d, "a", 100, long(100))
	root := syncs(t, d)
	b.Settle()
	b = b.anew(t, root, 9)
	d = b.open(t, root)
	// Its root is read no more, as nothing of it is remembered.
	used := b.Used()
	for i := range 4 {
		want(t, "Lose", b.r.Lose(i), api.OK)
	}
	want(t, "Destroy", d.Destroy("a"), api.ErrIO)
	want(t, "Destroy", d.Destroy("b"), api.OK)
	if !slices.Equal(b.Used(), used) || b.Settle() > 0 {
		t.Error(b.Used(), used)
	}
}

// cut makes datasets that were synced and flushed, does something while the power goes off behind so many writes, and tells whether it did go off; all is as it was then.
func cut(t *testing.T, writes int, do func(d *dataset.Sets) api.Errno) bool {
	t.Helper()
	b := lay(t, 5, 400)
	d := laid(t, b)
	root := syncs(t, d)
	want(t, "Flush", b.r.Flush(), api.OK)
	b.Settle()
	b = b.anew(t, root, b.Txg()+1)
	d = b.open(t, root)
	puts(t, d, "a", "k", "7")
	puts(t, d, "c", "k", "7")
	b.r.Arm(writes)
	e := do(d)
	if e != api.OK && e != api.ErrDown {
		t.Fatal(e)
	}
	b.r.Crash(nil)
	b = b.anew(t, root, b.Txg()+1)
	d = b.open(t, root)
	stillLaid(t, d)
	puts(t, d, "a", "k", "8")
	all(t, d.Snapshot("a@z"))
	b.justThese(t, syncs(t, d))
	return e == api.ErrDown
}

// P12.4: the power goes off at each write: what was synced and flushed is there.
func TestPower(t *testing.T) {
	for name, do := range map[string]func(d *dataset.Sets) api.Errno{
		"Sync": func(d *dataset.Sets) api.Errno {
			p, e := d.Sync()
			if e != api.OK && p != (api.Ptr{}) {
				t.Error(tell(p), e)
			}
			return e
		},
		"Snapshot": func(d *dataset.Sets) api.Errno { return d.Snapshot("a@z") },
		"all": func(d *dataset.Sets) api.Errno {
			e := d.Snapshot("a@z")
			for _, s := range []string{"a@y", "b"} {
				if e == api.OK {
					e = d.Destroy(s)
				}
			}
			if e == api.OK {
				_, e = d.Sync()
			}
			return e
		},
	} {
		n := 0
		for cut(t, n, do) {
			n++
		}
		if n < 4 {
			t.Errorf("%s: %d writes", name, n)
		}
	}
}

// crowd fills a dataset, by and by, till there is no room for what is to be written: the last root, and its pairs.
func (b bed) crowd(t *testing.T, d *dataset.Sets) (api.Ptr, map[string]string) {
	t.Helper()
	var root api.Ptr
	m := map[string]string{}
	for n := 0; ; n += 10 {
		now := fills(t, d, "b", n, long(250))
		p, e := d.Sync()
		if e == api.ErrSpace && p == (api.Ptr{}) {
			return root, m
		}
		want(t, "Sync", e, api.OK)
		root, m = p, now
		b.justThese(t, root)
		b.Settle()
	}
}

// P12.1, P12.4: a store without room: ErrSpace; the older root has all its blocks still, and what is opened from it goes on, in the same store and in another one.
func TestNoRoom(t *testing.T) {
	for _, other := range []bool{false, true} {
		b := lay(t, 5, 150)
		d := b.open(t, api.Ptr{})
		all(t, d.Create("a"), d.Create("b"))
		puts(t, d, "a", "k", "1")
		root, m := b.crowd(t, d)
		b.Settle()
		if other {
			b = b.anew(t, root, b.Txg()+1)
			b.justThese(t, root)
		}
		d = b.open(t, root)
		lists(t, d, "a", "b")
		tells(t, d, "a", map[string]string{"k": "1"})
		tells(t, d, "b", m)
		all(t, d.Destroy("b"))
		b.Settle()
		puts(t, d, "a", "k", "2")
		root = syncs(t, d)
		if other {
			b.justThese(t, root)
		}
		tells(t, b.open(t, root), "a", map[string]string{"k": "2"})
	}
}

// P12.1: a snapshot for whose tree there is no room isn't made.
func TestNoRoomSnap(t *testing.T) {
	b := lay(t, 5, 150)
	d := b.open(t, api.Ptr{})
	all(t, d.Create("a"), d.Create("b"))
	puts(t, d, "a", "k", "1")
	root, m := b.crowd(t, d)
	b = b.anew(t, root, b.Txg()+1)
	d = b.open(t, root)
	used, txg := b.Used(), b.Txg()
	for i := range 200 {
		puts(t, d, "b", num(i), long(251))
	}
	want(t, "Snapshot", d.Snapshot("b@x"), api.ErrSpace)
	if b.Settle(); !slices.Equal(b.Used(), used) || b.Txg() != txg {
		t.Error(b.Used(), used, b.Txg(), txg)
	}
	d = b.open(t, root)
	lists(t, d, "a", "b")
	tells(t, d, "b", m)
}
