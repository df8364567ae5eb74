package tree_test

import (
	"maps"
	"math/rand"
	"slices"
	"testing"

	"hoard/api"
	"hoard/tree"
)

// changesOf are the changes that make one map of another.
func changesOf(old, now map[string]string) []tree.Change {
	both := maps.Clone(old)
	maps.Copy(both, now)
	var l []tree.Change
	for _, k := range slices.Sorted(maps.Keys(both)) {
		was, wasThere := old[k]
		v, ok := now[k]
		switch {
		case !ok:
			l = append(l, tree.Change{Key: k})
		case !wasThere || was != v:
			l = append(l, tree.Change{Key: k, Val: v, New: true})
		}
	}
	return l
}

// changed holds Changes between two roots to what the maps have, and makes one tree of the other by them.
func (b bed) changed(t *testing.T, old, now past) {
	t.Helper()
	l, e := tree.Changes(b.Store, old.root, now.root)
	if must := changesOf(old.m, now.m); e != api.OK || !slices.Equal(l, must) {
		t.Fatalf("%d changes, %d, not %d", len(l), e, len(must))
	}
	x := b.open(t, old.root)
	for _, c := range l {
		if c.New {
			puts(t, x, c.Key, c.Val)
		} else {
			drops(t, x, c.Key)
		}
	}
	tells(t, "the old tree with the changes", x, now.m)
}

// P10.4: Changes between any two of many roots: of one tree as it goes on, of its copies, of others, of none.
func TestChanges(t *testing.T) {
	for seed := range 8 {
		rnd := rand.New(rand.NewSource(int64(seed)))
		b := lay(t, 16, 2000)
		keys := keysOf(rnd, seed%4, []int{8, 100, 500}[seed%3])
		pasts := []past{{m: map[string]string{}}}
		for range 14 {
			was := anyOf(rnd, pasts)
			x, m := b.open(t, was.root), maps.Clone(was.m)
			share := rnd.Intn(101)
			for range rnd.Intn([]int{4, len(keys)}[rnd.Intn(2)]) {
				k := anyOf(rnd, keys)
				if rnd.Intn(100) < share {
					m[k] = long(rnd.Intn(200))
					puts(t, x, k, m[k])
				} else if x.Drop(k) == api.OK {
					delete(m, k)
				}
			}
			root, _ := syncs(t, x)
			pasts = append(pasts, past{root, m})
		}
		for _, old := range pasts {
			for _, now := range pasts {
				b.changed(t, old, now)
			}
		}
	}
}

// P10.4: trees of one and of many levels, one of which is a part of the other.
func TestLevels(t *testing.T) {
	b := lay(t, 16, 2000)
	pasts := []past{{m: map[string]string{}}}
	x, m := b.open(t, api.Ptr{}), map[string]string{}
	for i := range 1000 {
		puts(t, x, num(i), long(i%90))
		m[num(i)] = long(i % 90)
		if i < 3 || i == 30 || i == 300 || i == 999 {
			root, _ := syncs(t, x)
			pasts = append(pasts, past{root, maps.Clone(m)})
		}
	}
	for _, q := range b.blocks(t, pasts[len(pasts)-1].root) {
		l, e := b.open(t, q).Range("", "", 1000)
		want(t, "Range", e, api.OK)
		part := past{q, map[string]string{}}
		for _, p := range l {
			part.m[p.Key] = p.Val
		}
		if len(pasts) < 12 || b.reads(t, q).level > 1 {
			pasts = append(pasts, part)
		}
	}
	for _, old := range pasts {
		for _, now := range pasts {
			b.changed(t, old, now)
		}
	}
}

// P10.4: a block that both trees have isn't read: though few can be read still, what changed is told.
func TestUnread(t *testing.T) {
	b := lay(t, 16, 2000)
	x := b.open(t, api.Ptr{})
	for i := range 1000 {
		puts(t, x, num(i), long(100))
	}
	p, _ := syncs(t, x)
	puts(t, x, num(0), "0", num(499)+"x", "x", num(999), "9")
	drops(t, x, num(500))
	q, _ := syncs(t, x)
	b = b.anew(t)
	l, e := tree.Changes(b.Store, p, q)
	must := []tree.Change{{Key: num(0), Val: "0", New: true}, {Key: num(499) + "x", Val: "x", New: true}, {Key: num(500)}, {Key: num(999), Val: "9", New: true}}
	if e != api.OK || !slices.Equal(l, must) {
		t.Error(l, e)
	}
	if n := b.Counts().Gets; n > 40 {
		t.Error(n, "blocks were read")
	}
	b = b.anew(t)
	if l, e := tree.Changes(b.Store, p, p); len(l) != 0 || e != api.OK || b.Counts().Gets > 0 {
		t.Error(l, e, b.Counts())
	}
}
