package dead_test

import (
	"math/rand"
	"slices"
	"testing"

	"hoard/api"
	"hoard/dead"
)

// life is a head that takes and gives up blocks, with snapshots: who needs which block is told by sets.
type life struct {
	l     dead.Line
	head  map[int]api.Ptr
	snaps []map[int]api.Ptr // the oldest first
	base  map[int]api.Ptr   // what it began as
	freed map[int]int
	txg   int
	next  int
}

// copied is a set like one.
func copied(m map[int]api.Ptr) map[int]api.Ptr {
	c := map[int]api.Ptr{}
	for k, v := range m {
		c[k] = v
	}
	return c
}

// needed: does the head, a snapshot, or what it began as need a block?
func (g *life) needed(addr int) bool {
	for _, m := range append([]map[int]api.Ptr{g.head, g.base}, g.snaps...) {
		if _, ok := m[addr]; ok {
			return true
		}
	}
	return false
}

// frees holds blocks that are told to be free to be needed by nobody, and told once.
func (g *life) frees(t *testing.T, l []api.Ptr) {
	t.Helper()
	for _, p := range l {
		g.freed[p.Addr]++
		if g.needed(p.Addr) || g.freed[p.Addr] > 1 {
			t.Fatalf("%v is told to be free, for the %d. time; it is needed: %v", p, g.freed[p.Addr], g.needed(p.Addr))
		}
	}
}

// allTold holds all blocks that nobody needs to have been told by now.
func (g *life) allTold(t *testing.T) {
	t.Helper()
	for addr := range g.next {
		if !g.needed(addr) && g.freed[addr] != 1 {
			t.Fatalf("block %d isn't needed any longer, and wasn't told", addr)
		}
	}
}

// begins is a head that began empty, or as a clone with some blocks.
func begins(rnd *rand.Rand) *life {
	g := &life{head: map[int]api.Ptr{}, base: map[int]api.Ptr{}, freed: map[int]int{}, txg: 1}
	if rnd.Intn(2) == 0 {
		g.l.Base = 1 + rnd.Intn(5)
		g.txg = g.l.Base + 1
		for range rnd.Intn(9) {
			g.head[g.next] = born(g.next, 1+rnd.Intn(g.l.Base))
			g.next++
		}
		g.base = copied(g.head)
	}
	return g
}

// P11.1, P11.2: lives of heads with snapshots, in which blocks are taken and given up in any order: a block is told to be free at once when nobody needs it any longer, and once.
func TestModel(t *testing.T) {
	for seed := range 400 {
		rnd := rand.New(rand.NewSource(int64(seed)))
		g := begins(rnd)
		for range 200 {
			switch n := rnd.Intn(20); {
			case n < 8:
				g.head[g.next] = born(g.next, g.txg)
				g.next++
			case n < 15:
				g.kill(t, rnd)
			case n < 17 && len(g.snaps) < 6:
				g.snapshot(t)
			case n < 19:
				g.destroy(t, rnd)
			default:
				g.txg += rnd.Intn(3)
			}
			if e := dead.Check(g.l); e != api.OK {
				t.Fatalf("%v isn't in form", g.l)
			}
			g.allTold(t)
		}
		g.ends(t)
	}
}

// kill gives up one of the head's blocks.
func (g *life) kill(t *testing.T, rnd *rand.Rand) {
	t.Helper()
	if len(g.head) == 0 {
		return
	}
	var l []int
	for addr := range g.head {
		l = append(l, addr)
	}
	slices.Sort(l)
	p := g.head[l[rnd.Intn(len(l))]]
	delete(g.head, p.Addr)
	next, free, e := dead.Kill(g.l, p)
	if e != api.OK {
		t.Fatal(e)
	}
	g.l = next
	if free {
		g.frees(t, []api.Ptr{p})
	}
}

// snapshot keeps the head as it is; what is born then is younger.
func (g *life) snapshot(t *testing.T) {
	t.Helper()
	next, e := dead.Snapshot(g.l, g.txg)
	if e != api.OK {
		t.Fatal(e)
	}
	g.l = next
	g.snaps = append(g.snaps, copied(g.head))
	g.txg++
}

// destroy forgets a snapshot.
func (g *life) destroy(t *testing.T, rnd *rand.Rand) {
	t.Helper()
	if len(g.snaps) == 0 {
		return
	}
	i := rnd.Intn(len(g.snaps))
	g.snaps = slices.Delete(g.snaps, i, i+1)
	next, free, e := dead.Destroy(g.l, i)
	if e != api.OK {
		t.Fatal(e)
	}
	g.l = next
	g.frees(t, free)
}

// ends gives up all of the head's blocks, and destroys all snapshots: what it didn't begin with is free then.
func (g *life) ends(t *testing.T) {
	t.Helper()
	rnd := rand.New(rand.NewSource(1))
	for len(g.head) > 0 {
		g.kill(t, rnd)
	}
	for len(g.snaps) > 0 {
		g.destroy(t, rnd)
	}
	g.allTold(t)
	for addr := range g.next {
		if _, ok := g.base[addr]; ok == (g.freed[addr] > 0) {
			t.Errorf("block %d: %v, %d", addr, ok, g.freed[addr])
		}
	}
}
