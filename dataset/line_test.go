package dataset_test

import (
	"math/rand"
	"testing"

	"hoard/api"
	"hoard/dataset"
	"hoard/tree"
)

// P12.3: what Snapshot and Destroy leave is given back at once, what Sync leaves behind it; nothing is settled.
func TestGiven(t *testing.T) {
	b := lay(t, 5, 400)
	d := b.open(t, api.Ptr{})
	all(t, d.Create("a"))
	puts(t, d, "a", "k", "1")
	syncs(t, d)
	leaves := func(what string, some bool) {
		t.Helper()
		free := b.Free()
		if n := b.Settle(); n > 0 != some || b.Free() != free+n {
			t.Errorf("%s left %d cells", what, n)
		}
	}
	leaves("the first Sync", false)
	puts(t, d, "a", "k", "2")
	all(t, d.Snapshot("a@x"))
	leaves("Snapshot with a change", true)
	all(t, d.Snapshot("a@y"))
	leaves("Snapshot without one", false)
	all(t, d.Destroy("a@y"))
	leaves("Destroy of what a@x is too", false)
	puts(t, d, "a", "k", "3")
	root := syncs(t, d)
	leaves("Sync", true)
	b.justThese(t, root)
	syncs(t, d)
	leaves("Sync without a change", false)
	all(t, d.Destroy("a@x"))
	leaves("Destroy of a snapshot", true)
	all(t, d.Destroy("a"))
	leaves("Destroy of a dataset", true)
	if p := syncs(t, d); p != (api.Ptr{}) {
		t.Error(tell(p))
	}
	leaves("the last Sync", true)
	if b.Free() != b.a.Cells() {
		t.Error(b.Free())
	}
}

// game is a dataset of many pairs, whose blocks are needed by snapshots and clones.
type game struct {
	bed
	d *dataset.Sets
}

// step does something, syncs, holds the blocks to those that are needed, and goes on with what is opened anew.
func (g *game) step(t *testing.T, errors ...api.Errno) {
	t.Helper()
	all(t, errors...)
	root := syncs(t, g.d)
	g.justThese(t, root)
	g.Settle()
	g.bed = g.anew(t, root, g.Txg()+1)
	g.d = g.open(t, root)
}

// costOf is how many cells a snapshot's blocks have.
func (g *game) costOf(t *testing.T, name string) int {
	t.Helper()
	p, _, e := g.d.Root(name)
	want(t, "Root", e, api.OK)
	l, e := tree.Blocks(g.Store, p)
	want(t, "Blocks", e, api.OK)
	n := 0
	for _, r := range g.cellsOf(t, l) {
		n += r.To - r.From
	}
	return n
}

// P12.2, P12.3: long lists of blocks that snapshots need are kept, over many pairs, and are given back when the last of these goes, in any order.
func TestLong(t *testing.T) {
	for _, order := range [][]string{{"a@x", "a@y", "a@z"}, {"a@z", "a@y", "a@x"}, {"a@y", "a@x", "a@z"}, {"a@y", "a@z", "a@x"}} {
		g := &game{bed: lay(t, 16, 2000)}
		g.d = g.open(t, api.Ptr{})
		all(t, g.d.Create("a"))
		pasts := map[string]map[string]string{"a@x": fills(t, g.d, "a", 1000, long(200))}
		g.step(t, g.d.Snapshot("a@x"))
		pasts["a@y"] = fills(t, g.d, "a", 1000, long(199))
		g.step(t, g.d.Snapshot("a@y"))
		pasts["a@z"] = fills(t, g.d, "a", 1000, long(198))
		g.step(t, g.d.Snapshot("a@z"))
		m := fills(t, g.d, "a", 1000, long(197))
		g.step(t)
		if n := g.costOf(t, "a@x"); n < 2000 {
			t.Fatal(n, "cells")
		}
		for _, name := range order {
			free := g.Free()
			n := g.costOf(t, name)
			g.step(t, g.d.Destroy(name))
			delete(pasts, name)
			if got := g.Free() - free; got < n {
				t.Errorf("%d cells of %d", got, n)
			}
			for s, m := range pasts {
				tells(t, g.d, s, m)
			}
			tells(t, g.d, "a", m)
		}
		g.step(t, g.d.Destroy("a"))
		if g.Free() != g.a.Cells() {
			t.Error(g.Free())
		}
	}
}

// P12.2, P12.3: clones of clones, whose snapshots are needed in turn; what each has alone is given back with it, and no more.
func TestClones(t *testing.T) {
	rnd := rand.New(rand.NewSource(1))
	g := &game{bed: lay(t, 9, 2000)}
	g.d = g.open(t, api.Ptr{})
	all(t, g.d.Create("a"))
	now := map[string]map[string]string{"a": fills(t, g.d, "a", 100, long(50))}
	turn := func(name string) {
		for range 30 {
			k, v := num(rnd.Intn(100)), long(rnd.Intn(60))
			puts(t, g.d, name, k, v)
			now[name][k] = v
		}
	}
	copied := func(name string) {
		m := map[string]string{}
		for k, v := range now[name] {
			m[k] = v
		}
		now["next"] = m
	}
	names := []string{"a", "b", "c", "d", "e"}
	for i, name := range names[1:] {
		from := names[i]
		turn(from)
		copied(from)
		g.step(t, g.d.Snapshot(from+"@x"))
		turn(from)
		g.step(t, g.d.Clone(from+"@x", name))
		now[name] = now["next"]
		delete(now, "next")
		for s, m := range now {
			tells(t, g.d, s, m)
		}
	}
	for i := len(names) - 1; i >= 0; i-- {
		if i > 0 {
			want(t, "Destroy", g.d.Destroy(names[i-1]+"@x"), api.ErrBusy)
		}
		g.step(t, g.d.Destroy(names[i]))
		delete(now, names[i])
		for s, m := range now {
			tells(t, g.d, s, m)
		}
		if i > 0 {
			g.step(t, g.d.Destroy(names[i-1]+"@x"))
		}
	}
	if g.Free() != g.a.Cells() {
		t.Error(g.Free())
	}
}

// P12.3: a block that is born behind a snapshot, or a clone's beginning, is told from its blocks, though all is done in a store that was told an older transaction than the root's.
func TestOldTxg(t *testing.T) {
	for _, txg := range []int{1, 2, 3, 4, 5, 9, 10} {
		b := lay(t, 5, 400)
		want(t, "Begin", b.Begin(3), api.OK)
		d := laid(t, b)
		syncs(t, d)
		want(t, "Begin", b.Begin(9), api.OK)
		puts(t, d, "a", "k", "3")
		root := syncs(t, d)
		b.Settle()
		b = b.anew(t, root, txg)
		d = b.open(t, root)
		if b.Txg() != txg {
			t.Error(b.Txg())
		}
		all(t, d.Snapshot("a@z"))
		puts(t, d, "a", "k", "4")
		puts(t, d, "b", "l", "4")
		b.justThese(t, syncs(t, d))
		puts(t, d, "a", "k", "5")
		puts(t, d, "b", "l", "5")
		b.justThese(t, syncs(t, d))
		tells(t, d, "a@z", map[string]string{"k": "3"})
		all(t, d.Destroy("a@y"))
		b.justThese(t, syncs(t, d))
		all(t, d.Destroy("b"), d.Destroy("a@x"), d.Destroy("a@z"), d.Destroy("a"), d.Destroy("c"))
		if p := syncs(t, d); p != (api.Ptr{}) || len(b.Used()) > 0 {
			t.Error(tell(p), b.Used())
		}
	}
}

// P12.3: the same where the last that was done was a snapshot.
func TestSnapTxg(t *testing.T) {
	b := lay(t, 5, 400)
	want(t, "Begin", b.Begin(5), api.OK)
	d := b.open(t, api.Ptr{})
	all(t, d.Create("a"))
	puts(t, d, "a", "k", "1")
	all(t, d.Snapshot("a@x"))
	root := syncs(t, d)
	b.Settle()
	b = b.anew(t, root, 5)
	d = b.open(t, root)
	puts(t, d, "a", "k", "2")
	b.justThese(t, syncs(t, d))
	puts(t, d, "a", "k", "3")
	b.justThese(t, syncs(t, d))
	if b.Txg() != 6 {
		t.Error(b.Txg())
	}
}

// P12.3: what costs no more than what is changed: a Sync writes little of what stands there.
func TestLittle(t *testing.T) {
	g := &game{bed: lay(t, 16, 2000)}
	g.d = g.open(t, api.Ptr{})
	all(t, g.d.Create("a"), g.d.Create("b"))
	fills(t, g.d, "a", 1000, long(200))
	g.step(t, g.d.Snapshot("a@x"))
	fills(t, g.d, "a", 1000, long(199))
	g.step(t)
	syncs(t, g.d)
	if n := g.Counts().Puts; n > 0 {
		t.Error(n, "blocks were written of no change")
	}
	puts(t, g.d, "b", "k", "1")
	syncs(t, g.d)
	if n := g.Counts().Puts; n > 5 {
		t.Error(n, "blocks were written of one change")
	}
}
