package tree_test

import (
	"maps"
	"math/rand"
	"slices"
	"testing"

	"hoard/api"
	"hoard/tree"
)

// P10.1, P10.3: many pairs of the longest keys, put rising, falling and at random, and dropped from either end and at random: never more than 2 n blocks, nor more than 10 above a pair, and all that is left is told.
func TestMany(t *testing.T) {
	const n = 1600
	rnd := rand.New(rand.NewSource(3))
	rising, falling := []int{}, []int{}
	for i := range n {
		rising = append(rising, i)
		falling = append(falling, n-1-i)
	}
	orders := [][]int{rising, falling, rnd.Perm(n)}
	for _, in := range orders {
		for _, out := range orders {
			b := lay(t, 16, 2000)
			x, m := b.open(t, api.Ptr{}), map[string]string{}
			for i, k := range in {
				key, val := long(20)+num(k), bytesOf(rnd, rnd.Intn(100))
				puts(t, x, key, val)
				m[key] = val
				if i%(n/4) == n/4-1 {
					b.renews(t, x, m, 0)
				}
			}
			for i, k := range out {
				drops(t, x, long(20)+num(k))
				delete(m, long(20)+num(k))
				if i%(n/16) == n/16-1 {
					b.renews(t, x, m, 0)
				}
			}
			if len(b.Used()) != 0 {
				t.Error("of a tree without pairs there stand", b.Used())
			}
		}
	}
}

// renews syncs a tree, gives back what it left, and holds it to its pairs, its blocks to what is used, and its depth to a least.
func (b bed) renews(t *testing.T, x *tree.Tree, m map[string]string, least int) {
	t.Helper()
	p, gone := syncs(t, x)
	b.gives(t, gone)
	if used := b.cellsOf(b.blocks(t, p)); !slices.Equal(b.Used(), used) {
		t.Fatalf("used are %v, not %v", b.Used(), used)
	}
	if deep := b.shape(t, p); deep < least {
		t.Fatal("not so many blocks above a pair:", deep)
	}
	tells(t, "a synced tree", b.open(t, p), m)
}

// P10.1, P10.3: a deep tree, in which nodes of all levels are cut and joined.
func TestDeep(t *testing.T) {
	const n = 6000
	b := lay(t, 16, 2000)
	x, m := b.open(t, api.Ptr{}), map[string]string{}
	key := func(i int) string { return long(19) + num(i/10) + num(i % 10)[3:] }
	for _, i := range rand.New(rand.NewSource(4)).Perm(n) {
		puts(t, x, key(i), long(i%40))
		m[key(i)] = long(i % 40)
	}
	b.renews(t, x, m, 4)
	for i := range n {
		if i%50 > 0 {
			drops(t, x, key(i))
			delete(m, key(i))
		}
		if i%500 == 499 {
			b.renews(t, x, m, 1)
		}
	}
}

// P10.3: the least keys of blocks get longer and shorter, so that those above them have too much or too little for a block.
func TestLeastKeys(t *testing.T) {
	b := lay(t, 16, 2000)
	x, m := b.open(t, api.Ptr{}), map[string]string{}
	for i := range 1200 {
		short, longer := num(i)+"a", num(i)+"b"+long(19)
		puts(t, x, short, long(160), longer, long(160))
		m[short], m[longer] = long(160), long(160)
	}
	b.renews(t, x, m, 3)
	for i := range 1200 {
		drops(t, x, num(i)+"a")
		delete(m, num(i)+"a")
	}
	b.renews(t, x, m, 3)
	for i := range 1200 {
		puts(t, x, num(i), long(40))
		drops(t, x, num(i)+"b"+long(19))
		m[num(i)] = long(40)
		delete(m, num(i)+"b"+long(19))
	}
	b.renews(t, x, m, 2)
}

// P10.3: a value in the place of one of its size: just the blocks above the pair are written; and no change of one pair writes more than two blocks of a level.
func TestFew(t *testing.T) {
	b := lay(t, 16, 2000)
	x, m := b.open(t, api.Ptr{}), map[string]string{}
	rnd := rand.New(rand.NewSource(5))
	for i := range 1500 {
		puts(t, x, num(2*i), long(100))
		m[num(2*i)] = long(100)
	}
	p, _ := syncs(t, x)
	deep := b.shape(t, p)
	if deep < 3 {
		t.Fatal(deep)
	}
	for i := range 300 {
		was := b.Counts().Puts
		k := num(2 * rnd.Intn(1500))
		_, ok := m[k]
		switch {
		case i%3 == 0 && ok:
			m[k] = num(i) + long(len(m[k])-4)
			puts(t, x, k, m[k])
		case i%3 == 1 && ok:
			drops(t, x, k)
			delete(m, k)
		default:
			k = num(rnd.Intn(3000))
			m[k] = long(4 + rnd.Intn(290))
			puts(t, x, k, m[k])
		}
		q, gone := syncs(t, x)
		n := b.Counts().Puts - was
		if i%3 == 0 && ok && (n != deep || len(gone) != deep) || n > 2*deep+1 || len(gone) > 2*deep {
			t.Errorf("%d blocks were written and %d left, of %d levels", n, len(gone), deep)
		}
		deep = b.deep(t, q)
		b.gives(t, gone)
	}
	q, _ := syncs(t, x)
	tells(t, "the tree", b.open(t, q), m)
}

// P10.3: the power goes off at each write of a Sync: nothing is changed, what was put is given back; with power it is done.
func TestOff(t *testing.T) {
	for at := 0; ; at++ {
		b := lay(t, 5, 400)
		x, m, root := b.part(t)
		y := x.Copy()
		used, free := b.Used(), b.Free()
		b.r.Arm(at)
		p, gone, e := x.Sync()
		b.r.Crash(nil)
		if e == api.OK {
			if at == 0 {
				t.Fatal("nothing was written")
			}
			return
		}
		b.unsynced(t, x, p, gone, e, api.ErrDown)
		if b.Settle(); !slices.Equal(b.Used(), used) || b.Free() != free {
			t.Fatalf("used are %v, not %v", b.Used(), used)
		}
		b.resumes(t, x, y, m, root)
	}
}

// part makes a tree of some blocks that is synced, and changed since.
func (b bed) part(t *testing.T) (*tree.Tree, map[string]string, api.Ptr) {
	t.Helper()
	x, m := b.open(t, api.Ptr{}), map[string]string{}
	for i := range 60 {
		puts(t, x, num(i), long(100))
		m[num(i)] = long(100)
	}
	root, _ := syncs(t, x)
	want(t, "Flush", b.r.Flush(), api.OK)
	for i := range 20 {
		puts(t, x, num(3*i), long(3*i), num(3*i)+"new", "new")
		drops(t, x, num(3*i+1))
		m[num(3*i)], m[num(3*i)+"new"] = long(3*i), "new"
		delete(m, num(3*i+1))
	}
	return x, m, root
}

// unsynced holds a Sync's answer to an error, and nothing else.
func (b bed) unsynced(t *testing.T, x *tree.Tree, p api.Ptr, gone []api.Ptr, e, must api.Errno) {
	t.Helper()
	if p != (api.Ptr{}) || gone != nil || e != must || !x.Dirty() {
		t.Fatalf("%s, %s, %d, %v", tell(p), tellAll(gone), e, x.Dirty())
	}
}

// resumes holds a tree whose Sync failed to what it had, and syncs it.
func (b bed) resumes(t *testing.T, x, y *tree.Tree, m map[string]string, root api.Ptr) {
	t.Helper()
	tells(t, "the tree", x, m)
	tells(t, "its copy", y, m)
	old := b.blocks(t, root)
	p, gone := syncs(t, x)
	slices.SortFunc(gone, byAddr)
	if now := b.blocks(t, p); !slices.Equal(gone, without(old, now)) {
		t.Errorf("gone are %s, not %s", tellAll(gone), tellAll(without(old, now)))
	}
	tells(t, "what was synced", b.open(t, p), m)
	b.shape(t, root)
}

// P10.3: a store without room: nothing is changed, what was put is given back; behind room was made, it is done.
func TestFull(t *testing.T) {
	for left := range 60 {
		b := lay(t, 5, 200)
		x, m, root := b.part(t)
		y := x.Copy()
		var fill []api.Ptr
		for b.Free() >= 4*(left+1) {
			p, e := b.Put([]byte{byte(left)})
			want(t, "Put", e, api.OK)
			fill = append(fill, p)
		}
		used, free := b.Used(), b.Free()
		p, gone, e := x.Sync()
		if e == api.OK {
			if left < 5 {
				t.Fatal("there was room")
			}
			return
		}
		b.unsynced(t, x, p, gone, e, api.ErrSpace)
		if b.Settle(); !slices.Equal(b.Used(), used) || b.Free() != free {
			t.Fatalf("used are %v, not %v", b.Used(), used)
		}
		b.gives(t, fill)
		b.resumes(t, x, y, m, root)
	}
	t.Fatal("there never was room")
}

// P10.1: up to three drives that fail change nothing; of more each call tells the error, and nothing is changed.
func TestDrives(t *testing.T) {
	b := lay(t, 5, 400)
	x, m, root := b.part(t)
	b = b.anew(t)
	for _, d := range []int{0, 3, 4} {
		want(t, "Lose", b.r.Lose(d), api.OK)
	}
	old := b.open(t, root)
	was, e := old.Range("", "", 100)
	if e != api.OK || len(was) != 60 {
		t.Fatal(len(was), e)
	}
	tells(t, "the tree", x, m)
	p, _ := syncs(t, x)
	tells(t, "what was synced", b.anew(t).open(t, p), m)
	b = b.anew(t)
	want(t, "Lose", b.r.Lose(2), api.OK)
	for range 2 {
		refused(t, b.Store, p, func(e api.Errno) bool { return e == api.ErrIO })
		b.r.Arm(0)
		b.r.Flush()
	}
}

// P10.1: a change that needs a block that can't be read isn't done, and those that were done stay.
func TestHalf(t *testing.T) {
	b := lay(t, 5, 400)
	x, m, root := b.part(t)
	p, _ := syncs(t, x)
	l := b.blocks(t, p)
	for _, q := range l {
		if b.reads(t, q).level > 1 {
			continue
		}
		c := b.anew(t)
		y, n := c.open(t, p), maps.Clone(m)
		// With four sectors of it rotten nobody reads the block.
		d, _ := b.a.Cost(q.Size)
		for i := range d {
			b.r.Rot((q.Addr+i)%5, 1+(q.Addr+i)/5, 5)
		}
		fails := 0
		for _, k := range append(slices.Sorted(maps.Keys(m)), "x") {
			fails += c.either(t, y, n, k, long(200))
		}
		if fails == 0 || fails > 20 && len(l) > 6 {
			t.Errorf("%d calls failed", fails)
		}
		if e := y.Put("y", "y"); e == api.OK {
			n["y"] = "y"
		}
		for i := range d {
			b.r.Rot((q.Addr+i)%5, 1+(q.Addr+i)/5, 5)
		}
		tells(t, "what was put", y, n)
		z, gone := syncs(t, y)
		tells(t, "what was synced", c.anew(t).open(t, z), n)
		now := c.blocks(t, z)
		slices.SortFunc(gone, byAddr)
		if !slices.Equal(gone, without(l, now)) {
			t.Errorf("gone are %s, not %s", tellAll(gone), tellAll(without(l, now)))
		}
	}
	tells(t, "the old root", b.open(t, root).Copy(), func() map[string]string {
		was := map[string]string{}
		for i := range 60 {
			was[num(i)] = long(100)
		}
		return was
	}())
}

// P10.3: the blocks without others below them needn't be read to be told.
func TestLost(t *testing.T) {
	b := lay(t, 5, 400)
	_, _, root := b.part(t)
	l := b.blocks(t, root)
	for _, p := range l {
		if b.reads(t, p).level == 1 {
			n, _ := b.a.Cost(p.Size)
			for i := range n {
				b.r.Rot((p.Addr+i)%5, 1+(p.Addr+i)/5, 5)
			}
		}
	}
	b = b.anew(t)
	if again := b.blocks(t, root); len(l) < 3 || !slices.Equal(again, l) {
		t.Error(tellAll(again))
	}
	if l, e := b.open(t, root).Range("", "", 5); l != nil || e != api.ErrIO {
		t.Error(l, e)
	}
}

// either puts a pair, or is told that it can't be; how often.
func (b bed) either(t *testing.T, x *tree.Tree, m map[string]string, key, val string) int {
	t.Helper()
	e := x.Put(key, val)
	if e == api.OK {
		m[key] = val
		return 0
	}
	want(t, "Put", e, api.ErrIO)
	if v, e := x.Get(key); e != api.ErrIO || v != "" {
		t.Errorf("Get(%q): %q, %d", key, v, e)
	}
	return 1
}

// P10.3: a Sync without changes answers the root, whatever the drives do, and writes nothing.
func TestIdle(t *testing.T) {
	b := lay(t, 5, 400)
	x, _, _ := b.part(t)
	p, _ := syncs(t, x)
	used, puts := b.Used(), b.Counts().Puts
	b.r.Arm(0)
	b.r.Flush()
	for _, y := range []*tree.Tree{x, x.Copy(), b.open(t, p), b.open(t, api.Ptr{})} {
		must := p
		if l, _ := y.Range("", "", 1); len(l) == 0 {
			must = api.Ptr{}
		}
		if q, gone := syncs(t, y); q != must || len(gone) != 0 {
			t.Error(tell(q), tellAll(gone))
		}
	}
	if !slices.Equal(b.Used(), used) || b.Counts().Puts != puts {
		t.Error("used are", b.Used())
	}
}
