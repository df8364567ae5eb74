package tree_test

import (
	"maps"
	"math/rand"
	"slices"
	"testing"

	"hoard/api"
	"hoard/tree"
)

// side is a tree with the pairs that it must have, and the root that it was opened with or synced last.
type side struct {
	x    *tree.Tree
	m    map[string]string
	root api.Ptr
}

// past is a root with the pairs that it must have for ever.
type past struct {
	root api.Ptr
	m    map[string]string
}

// game is a random game with trees of one store.
type game struct {
	bed
	rnd   *rand.Rand
	keys  []string
	val   int // values have fewer bytes
	sides []side
	pasts []past
	born  []api.Ptr // and not given back
}

// keysOf are n keys: of all lengths, of few letters, or the longest, alike but for their ends.
func keysOf(rnd *rand.Rand, kind, n int) []string {
	seen := map[string]int{}
	for len(seen) < n {
		k := num(rnd.Intn(n * 2))
		switch kind {
		case 0:
			k = bytesOf(rnd, 1+rnd.Intn(24))
		case 1:
			b := make([]byte, 1+rnd.Intn(24))
			for i := range b {
				b[i] = "ab"[rnd.Intn(2)]
			}
			k = string(b)
		case 2:
			k = long(20) + k
		}
		seen[k] = 1
	}
	return slices.Sorted(maps.Keys(seen))
}

// P10.1, P10.2, P10.3: random games, in which trees are held against maps.
func TestModel(t *testing.T) {
	for seed := range 24 {
		rnd := rand.New(rand.NewSource(int64(seed)))
		g := &game{bed: lay(t, 9+rnd.Intn(8), 2000), rnd: rnd}
		g.keys = keysOf(rnd, seed%4, []int{10, 60, 250, 700}[rnd.Intn(4)])
		g.val = []int{1, 20, 301}[seed/4%3]
		g.sides = []side{{x: g.open(t, api.Ptr{}), m: map[string]string{}}}
		// It grows, stays, shrinks, and grows again.
		for _, share := range []int{90, 50, 10, 60, 0} {
			for range 12 {
				g.changes(t, rnd.Intn(len(g.keys)/4+2), share)
				g.looks(t)
				g.moves(t)
			}
		}
		for _, p := range g.pasts {
			tells(t, "an old root", g.open(t, p.root), p.m)
		}
	}
}

// changes does n changes, so many of a hundred of them Puts.
func (g *game) changes(t *testing.T, n, share int) {
	t.Helper()
	for range n {
		s := anyOf(g.rnd, g.sides)
		k := anyOf(g.rnd, g.keys)
		if g.rnd.Intn(100) < share {
			v := bytesOf(g.rnd, g.rnd.Intn(g.val))
			puts(t, s.x, k, v)
			s.m[k] = v
			continue
		}
		must := api.ErrMiss
		if _, ok := s.m[k]; ok {
			must = api.OK
		}
		want(t, "Drop", s.x.Drop(k), must)
		delete(s.m, k)
	}
}

// looks holds what the trees tell to the maps.
func (g *game) looks(t *testing.T) {
	t.Helper()
	for _, s := range g.sides {
		tells(t, "a tree", s.x, s.m)
		for range 10 {
			gets(t, s.x, s.m, anyOf(g.rnd, g.keys))
			gets(t, s.x, s.m, bytesOf(g.rnd, g.rnd.Intn(26)))
			ranges(t, s.x, s.m, anyOf(g.rnd, g.keys), anyOf(g.rnd, g.keys), g.rnd.Intn(50))
		}
	}
}

// moves syncs a tree, copies one, forgets one, or opens one anew.
func (g *game) moves(t *testing.T) {
	t.Helper()
	i := g.rnd.Intn(len(g.sides))
	s := g.sides[i]
	switch g.rnd.Intn(5) {
	case 0, 1:
		g.sync(t, i)
	case 2:
		if len(g.sides) < 4 {
			g.sides = append(g.sides, side{s.x.Copy(), maps.Clone(s.m), s.root})
		}
	case 3:
		if len(g.sides) > 1 {
			g.sides = slices.Delete(g.sides, i, i+1)
		}
	case 4:
		for i := range g.sides {
			g.sync(t, i)
		}
		g.bed = g.anew(t)
		for i := range g.sides {
			g.sides[i].x = g.open(t, g.sides[i].root)
		}
	}
}

// sweeps gives back the blocks that no root needs, if there is little room.
func (g *game) sweeps(t *testing.T) {
	t.Helper()
	if g.Free() > g.a.Cells()*3/5 {
		return
	}
	for len(g.pasts) > 2 {
		tells(t, "an old root", g.open(t, g.pasts[0].root), g.pasts[0].m)
		g.pasts = g.pasts[1:]
	}
	needed := map[api.Ptr]int{}
	for _, s := range g.sides {
		g.pasts = append(g.pasts, past{root: s.root})
	}
	for _, p := range g.pasts {
		for _, q := range g.blocks(t, p.root) {
			needed[q]++
		}
	}
	g.pasts = g.pasts[:len(g.pasts)-len(g.sides)]
	isNeeded := func(p api.Ptr) bool { return needed[p] > 0 }
	g.gives(t, slices.DeleteFunc(slices.Clone(g.born), isNeeded))
	g.born = slices.DeleteFunc(g.born, func(p api.Ptr) bool { return !isNeeded(p) })
	if !slices.Equal(g.Used(), g.cellsOf(g.born)) {
		t.Fatal("used are", g.Used())
	}
}

// sync syncs a tree, and holds the blocks to what they must be.
func (g *game) sync(t *testing.T, i int) {
	t.Helper()
	g.sweeps(t)
	s := &g.sides[i]
	old := g.blocks(t, s.root)
	used := g.Used()
	dirty := s.x.Dirty()
	if g.rnd.Intn(2) == 0 {
		g.Begin(g.Txg() + 1)
	}
	root, gone := syncs(t, s.x)
	now := g.blocks(t, root)
	slices.SortFunc(gone, byAddr)
	if !slices.Equal(gone, without(old, now)) {
		t.Fatalf("gone are %s, not %s", tellAll(gone), tellAll(without(old, now)))
	}
	if !dirty && root != s.root {
		t.Fatal("a Sync without changes answers", tell(root))
	}
	if dirty {
		g.onlyThese(t, used, without(now, old))
	}
	g.shape(t, root)
	s.root = root
	g.born = append(g.born, without(now, old)...)
	tells(t, "a synced tree", s.x, s.m)
	if g.rnd.Intn(3) == 0 && len(g.pasts) < 10 {
		g.pasts = append(g.pasts, past{root, maps.Clone(s.m)})
	}
}
