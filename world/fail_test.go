package world_test

import (
	"fmt"
	"math/rand"
	"slices"
	"testing"

	"hoard/api"
	"hoard/store"
	"hoard/tree"
	"hoard/world"
)

// large is a world of far more blocks than a store remembers, synced and flushed, with its model and its root.
func large(t *testing.T, drives int, rnd *rand.Rand) (*play, api.Ptr) {
	t.Helper()
	p := &play{layOn(t, drives, 2000), newModel(), rnd, false}
	for i := range 60 {
		dir := fmt.Sprintf("/d%d", i%7)
		if i < 7 {
			all(t, p.both(dir, 2))
		}
		all(t, p.both(fmt.Sprintf("%s/f%d", dir, i), 1))
		ino := p.m.last
		s := make([]byte, 2500)
		rnd.Read(s)
		all(t, p.Write(ino, 0, string(s)), p.m.write(ino, 0, string(s)))
	}
	root := p.syncs(t)
	want(t, "Flush", p.r.Flush(), api.OK)
	if l, e := tree.Blocks(p.s, root); e != api.OK || len(l) < 150 {
		t.Fatal(len(l), e)
	}
	return p, root
}

// both makes something in a world and its model.
func (p *play) both(path string, kind int) api.Errno {
	if _, e := p.m.make(path, kind); e != api.OK {
		return e
	}
	_, e := p.Make(path, kind)
	return e
}

// fresh is a bed with a store that remembers nothing.
func (b bed) fresh(t *testing.T, root api.Ptr) bed {
	t.Helper()
	s, e := store.New(b.a, b.s.Used(), b.s.Txg())
	want(t, "store.New", e, api.OK)
	b.s = s
	return b.open(t, root)
}

// P14.2: the power is off, so that a call meets on its way what isn't remembered: it is done wholly, or not at all.
func TestPower(t *testing.T) {
	rnd := rand.New(rand.NewSource(142))
	p, _ := large(t, 5, rnd)
	down := map[string]int{}
	for i := range 120 {
		p.roam(t)
		p.r.Arm(0)
		p.r.Flush()
		what, e := p.try(t)
		p.r.Crash(nil)
		if e == api.ErrDown {
			down[what]++
		}
		if i%30 == 0 {
			p.holds(t, p.m)
			p.syncs(t)
			want(t, "Flush", p.r.Flush(), api.OK)
		}
	}
	for _, what := range []string{"Make", "Link", "Unlink", "Rename", "Write", "Truncate"} {
		if down[what] == 0 {
			t.Error(what, "never went without power")
		}
	}
}

// wide is a world whose parts lie far from each other, in far more blocks than a store remembers, synced and flushed, and its root.
func wide(t *testing.T) (bed, api.Ptr) {
	t.Helper()
	b := layOn(t, 5, 1200)
	b.makes(t, "/d/", "/e/", "/e/early", "/n/", "/g")
	all(t, b.Write(6, 0, long(4096)))
	for i := range 26 {
		s := string(name16[i%16]) + string(name16[i/16])
		all(t, b.Write(b.makes(t, "/d/"+s), 0, long(4096)))
	}
	b.makes(t, "/d/sub/", "/d/sub/sub/", "/d/sub/sub/x", "/f", "/d/empty/")
	all(t, b.Write(b.makes(t, "/d/late"), 0, long(4096)), b.Link("/d/late", "/e/late"), b.Write(35, 0, "xyz"))
	for n := range 5 {
		b.makes(t, deep("m", n+1)+"/")
	}
	root := b.syncs(t)
	want(t, "Flush", b.r.Flush(), api.OK)
	return b, root
}

// P14.2: the power goes off while what is read is healed on a call's way: it is done wholly, or not at all.
func TestPowerOnTheWay(t *testing.T) {
	b, root := wide(t)
	for what, call := range map[string]func(b bed) api.Errno{
		"Look":         func(b bed) api.Errno { x, e := b.Look("/d/sub/sub/x"); return none(e, x == world.Info{}) },
		"List":         func(b bed) api.Errno { l, e := b.List("/d"); return none(e, len(l) == 0) },
		"Read":         func(b bed) api.Errno { s, e := b.Read(6, 0, 4096); return none(e, s == "") },
		"Make":         func(b bed) api.Errno { n, e := b.Make("/e/new", 1); return none(e, n == 0) },
		"Make below":   func(b bed) api.Errno { n, e := b.Make("/d/sub/new", 2); return none(e, n == 0) },
		"Link":         func(b bed) api.Errno { return b.Link("/g", "/d/empty/g") },
		"Unlink":       func(b bed) api.Errno { return b.Unlink("/g") },
		"Unlink one":   func(b bed) api.Errno { return b.Unlink("/e/late") },
		"Rmdir":        func(b bed) api.Errno { return b.Rmdir("/d/empty") },
		"Rmdir early":  func(b bed) api.Errno { return b.Rmdir("/n") },
		"Rename":       func(b bed) api.Errno { return b.Rename("/f", "/g") },
		"Rename over":  func(b bed) api.Errno { return b.Rename("/e/early", "/d/late") },
		"Rename dir":   func(b bed) api.Errno { return b.Rename("/d/sub", "/n") },
		"Rename all":   func(b bed) api.Errno { return b.Rename("/d", "/n") },
		"Rename far":   func(b bed) api.Errno { return b.Rename("/d", deep("m", 5)+"/d") },
		"Write":        func(b bed) api.Errno { return b.Write(6, 1, long(4095)) },
		"Write to new": func(b bed) api.Errno { return b.Write(4, 1, long(4095)) },
		"Truncate":     func(b bed) api.Errno { return b.Truncate(6, 1) },
	} {
		n := 0
		for b.cut(t, what, root, n, call) {
			n += 3 // most blocks take as many writes
		}
		if n == 0 {
			t.Error(what, "never went without power")
		}
	}
	b.noRename(t, "/d", deep("m", 5)+"/d", api.ErrBig)
}

// none is an error, if there was nothing beside it.
func none(e api.Errno, isZero bool) api.Errno {
	if e != api.OK && !isZero {
		return -1
	}
	return e
}

// cut does a call in a world that is opened anew while a drive was replaced, and the power goes off behind so many writes; it tells whether it did go off.
func (b bed) cut(t *testing.T, what string, root api.Ptr, writes int, call func(b bed) api.Errno) bool {
	t.Helper()
	was := b.pairs(t)
	b = b.fresh(t, root)
	for ino := 7; ino < 25; ino++ {
		b.Read(ino, 0, 4096) // so that nothing else is remembered
	}
	want(t, "Replace", b.r.Replace(0), api.OK)
	b.r.Arm(writes)
	e := call(b)
	b.r.Crash(nil)
	if e == api.ErrDown {
		if b.x.Dirty() || !slices.Equal(b.pairs(t), was) {
			t.Fatalf("%s: behind %d writes something was changed", what, writes)
		}
		return true
	}
	must := b.fresh(t, root)
	want(t, what, e, call(must))
	if b.x.Dirty() != must.x.Dirty() || !slices.Equal(b.pairs(t), must.pairs(t)) {
		t.Fatalf("%s: not the whole was done", what)
	}
	return false
}

// roam has some of the tree remembered, and all else not.
func (p *play) roam(t *testing.T) {
	t.Helper()
	for range 35 {
		_, e := p.Read(1+p.rnd.Intn(p.m.last), 0, 4096)
		if e != api.OK && e != api.ErrMiss && e != api.ErrDir {
			t.Fatal(e)
		}
	}
	p.Look("/")
	p.Make("/x/y", 1)
}

// try does one call to the world, and to its model too unless it was refused for want of power or drives: then it has changed nothing, as is seen when there is power again.
func (p *play) try(t *testing.T) (string, api.Errno) {
	t.Helper()
	copied, dirty := p.x.Copy(), p.x.Dirty()
	m := p.m.copied()
	path, to := p.path(), p.path()
	ino, off := 1+p.rnd.Intn(p.m.last), p.rnd.Intn(4096)
	s := long(p.rnd.Intn(4097 - off))
	var what string
	var got, must api.Errno
	switch p.rnd.Intn(7) {
	case 0:
		what = "Make"
		n, e := p.Make(path, 1)
		k, f := m.make(path, 1)
		if n != k && (n != 0 || e == api.OK) {
			t.Fatal(n, k)
		}
		got, must = e, f
	case 1:
		what, got, must = "Link", p.Link(path, to), m.link(path, to)
	case 2:
		what, got, must = "Unlink", p.Unlink(path), m.unlink(path)
	case 3:
		what, got, must = "Rmdir", p.Rmdir(path), m.rmdir(path)
	case 4:
		what, got, must = "Rename", p.Rename(path, to), m.rename(path, to)
	case 5:
		what, got, must = "Write", p.Write(ino, off, s), m.write(ino, off, s)
	default:
		what, got, must = "Truncate", p.Truncate(ino, off), m.truncate(ino, off)
	}
	if got == api.ErrDown || got == api.ErrIO {
		p.r.Crash(nil)
		if p.x.Dirty() != dirty || got == api.ErrDown && !slices.Equal(p.pairs(t), p.on(t, copied).pairs(t)) {
			t.Fatalf("%s: error %d, and something was changed", what, got)
		}
		return what, got
	}
	want(t, what, got, must)
	p.m = m
	return what, got
}

// P14.1: though any three drives are lost, all is there, and goes on.
func TestLost(t *testing.T) {
	for i := range 6 {
		for j := range i {
			for k := range j {
				p := &play{layOn(t, 6, 900), newModel(), rand.New(rand.NewSource(int64(100*i + 10*j + k))), false}
				for range 40 {
					p.deed(t)
				}
				root := p.syncs(t)
				for _, drive := range []int{i, j, k} {
					want(t, "Lose", p.r.Lose(drive), api.OK)
				}
				p.bed = p.fresh(t, root)
				p.holds(t, p.m)
				for range 10 {
					p.deed(t)
				}
				p.bed = p.fresh(t, p.syncs(t))
				p.holds(t, p.m)
			}
		}
	}
}

// P6, P14.2: though four drives are lost: what is told is right, or ErrIO; what is refused so has changed nothing.
func TestTooManyLost(t *testing.T) {
	rnd := rand.New(rand.NewSource(6))
	p, root := large(t, 9, rnd)
	p.bed = p.fresh(t, root)
	for drive := range 4 {
		want(t, "Lose", p.r.Lose(2*drive), api.OK)
	}
	refused := 0
	for range 400 {
		if _, e := p.try(t); e == api.ErrIO {
			refused++
		}
		for ino, x := range p.m.things() {
			y, e := p.Info(ino)
			if e != api.ErrIO && (e != api.OK || y != x.info()) {
				t.Fatal(ino, y, e)
			}
			s, e := p.Read(ino, 0, 4096)
			if x.kind == 1 && e != api.ErrIO && (e != api.OK || s != string(x.bytes)) {
				t.Fatal(ino, e)
			}
		}
	}
	if refused == 0 {
		t.Error("nothing was lost")
	}
	x, e := tree.Open(p.fresh(t, api.Ptr{}).s, root)
	want(t, "tree.Open", e, api.OK)
	if w, e := world.New(x); w != nil || e != api.ErrIO {
		t.Error(w, e)
	}
}
