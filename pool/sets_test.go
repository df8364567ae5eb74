package pool_test

import (
	"fmt"
	"math/rand"
	"slices"
	"testing"

	"hoard/api"
	"hoard/sha"
	"hoard/step"
)

// P18.1: what calls on datasets are refused for, in the order of the errors; nothing is changed then.
func TestSetErrors(t *testing.T) {
	b := lay(t, 5, 600, 40)
	b.writes(t, "main", "/f", "abc")
	done(t, b.Snapshot("main@a"), b.Clone("main@a", "c"), b.Snapshot("c@x"), b.Clone("c@x", "d"))
	s := b.sends(t, "", "main@a")
	is := b.view(t)
	refused := func(what string, e, must api.Errno) {
		t.Helper()
		want(t, what, e, must)
		if b.view(t) != is {
			t.Fatal(what, "changed something")
		}
	}
	for name, must := range noSuch() {
		refused("Destroy "+name, b.Destroy(name), must)
	}
	for _, name := range []string{"", "main", "no", "X@a", "main@", "main@A"} {
		refused("Snapshot "+name, b.Snapshot(name), api.ErrName)
		refused("Clone of "+name, b.Clone(name, "n"), api.ErrName)
		refused("Clone of "+name, b.Clone(name, "main@a"), api.ErrName)
		refused("Receive from "+name, b.Receive(name, "main@a", nil), api.ErrName)
		if name != "" {
			refused("Receive from "+name, b.Receive(name, "n", s), api.ErrName)
		}
	}
	for _, name := range []string{"", "X", "main@a", "no@a", "a b", "123456789"} {
		refused("Clone as "+name, b.Clone("no@a", name), api.ErrName)
		refused("Receive as "+name, b.Receive("no@a", name, nil), api.ErrName)
		refused("Receive as "+name, b.Receive("", name, s), api.ErrName)
	}
	refused("Snapshot", b.Snapshot("no@a"), api.ErrMiss)
	refused("Snapshot", b.Snapshot("main@a"), api.ErrThere)
	for _, name := range []string{"n", "main"} {
		refused("Clone", b.Clone("main@no", name), api.ErrMiss)
		refused("Clone", b.Clone("no@a", name), api.ErrMiss)
		refused("Receive", b.Receive("main@no", name, nil), api.ErrMiss)
	}
	refused("Clone", b.Clone("main@a", "main"), api.ErrThere)
	refused("Clone", b.Clone("main@a", "c"), api.ErrThere)
	refused("Receive", b.Receive("main@a", "c", nil), api.ErrThere)
	refused("Receive", b.Receive("", "main", s), api.ErrThere)
	for _, name := range []string{"main", "main@a", "c", "c@x"} {
		refused("Destroy", b.Destroy(name), api.ErrBusy)
	}
	done(t, b.Destroy("d"), b.Destroy("c@x"), b.Destroy("c"), b.Destroy("main@a"))
	refusedMain := b.Destroy("main")
	want(t, "Destroy", refusedMain, api.ErrBusy)
	b.lists(t, "main")
}

// P18.1: there are no more than twelve datasets and snapshots.
func TestMaxSets(t *testing.T) {
	b := lay(t, 5, 900, 40)
	b.writes(t, "main", "/f", "abc")
	done(t, b.Snapshot("main@a"))
	s := b.sends(t, "", "main@a")
	for i := range 5 {
		done(t, b.Snapshot(fmt.Sprint("main@", i)), b.Clone(fmt.Sprint("main@", i), fmt.Sprint("c", i)))
	}
	want(t, "Snapshot", b.Snapshot("main@x"), api.ErrBig)
	want(t, "Snapshot", b.Snapshot("main@a"), api.ErrThere)
	want(t, "Clone", b.Clone("main@a", "x"), api.ErrBig)
	want(t, "Clone", b.Clone("main@a", "c0"), api.ErrThere)
	want(t, "Receive", b.Receive("", "x", s), api.ErrBig)
	want(t, "Receive", b.Receive("main@a", "x", nil), api.ErrBig)
	done(t, b.Destroy("c3"), b.Receive("", "x", s))
	want(t, "Snapshot", b.Snapshot("x@a"), api.ErrBig)
	b.imports(t)
	want(t, "Snapshot", b.Snapshot("x@a"), api.ErrBig)
	b.reads(t, "x", "/f", "abc")
}

// P18.4, P5: a snapshot never changes, whatever becomes of its dataset and of its clones; these go their own ways.
func TestOwnWays(t *testing.T) {
	b := lay(t, 5, 700, 40)
	b.writes(t, "main", "/f", long(2000, 1))
	b.writes(t, "main", "/g", "g")
	done(t, b.Snapshot("main@a"))
	b.writes(t, "main", "/f", long(100, 2))
	done(t, b.Snapshot("main@b"), b.Clone("main@a", "c"), b.Clone("main@b", "d"), b.Clone("main@a", "e"))
	is := map[string]string{}
	for _, set := range []string{"main@a", "main@b"} {
		is[set] = b.looks(t, set)
	}
	for set, from := range map[string]string{"c": "main@a", "d": "main@b", "e": "main@a"} {
		if b.looks(t, set) != is[from] {
			t.Fatal(set, "doesn't begin as", from)
		}
	}
	for i := range 30 {
		for _, set := range []string{"main", "c", "d"} {
			b.writes(t, set, fmt.Sprint("/", set, i%5), long(50*i, len(set)+i))
			b.all(t, set, one(step.Create, fmt.Sprint("/n", i)))
		}
		if i%4 == 0 {
			done(t, b.Sync())
		}
		if i%7 == 0 {
			b.imports(t)
		}
		for set, must := range is {
			if b.looks(t, set) != must {
				t.Fatal(set, "changes")
			}
		}
	}
	if b.looks(t, "e") != is["main@a"] {
		t.Error("e changes with others")
	}
	b.misses(t, "c", "/d0")
	b.misses(t, "main", "/c0")
	b.reads(t, "c", "/f", long(2000, 1))
	b.reads(t, "d", "/f", long(100, 2))
}

// P18.4, P5: what is sent from one pool is received by another one as the same, in steps or in one go, and all other bytes are refused.
func TestBetweenPools(t *testing.T) {
	t.Parallel()
	from, to := lay(t, 5, 900, 40), lay(t, 7, 600, 9)
	rnd := rand.New(rand.NewSource(184))
	last := ""
	for i := range 5 {
		for range 10 {
			from.writes(t, "main", fmt.Sprint("/", rnd.Intn(12)), long(rnd.Intn(2000), i))
			from.Call("main", one(step.Unlink, fmt.Sprint("/", rnd.Intn(12))))
			from.Call("main", two(step.Rename, fmt.Sprint("/", rnd.Intn(12)), fmt.Sprint("/", rnd.Intn(12))))
		}
		snap, name := fmt.Sprint("main@", i), fmt.Sprint("r", i)
		done(t, from.Snapshot(snap))
		is := from.looks(t, snap)
		s := from.sends(t, last, snap)
		base := ""
		if i > 0 {
			base = fmt.Sprint("r", i-1, "@x")
		}
		to.refuses(t, rnd, base, name, s)
		done(t, to.Receive(base, name, s), to.Snapshot(name+"@x"))
		want(t, "Receive again", to.Receive(name+"@x", "no", s), api.ErrBusy)
		if to.looks(t, name) != is || to.looks(t, name+"@x") != is {
			t.Fatal(i, "is received as another one")
		}
		if i > 0 {
			want(t, "Receive", to.Receive("", "no", s), api.ErrBusy)
		}
		done(t, to.Receive("", "whole", from.sends(t, "", snap)))
		if to.looks(t, "whole") != is {
			t.Fatal(i, "is received as another one")
		}
		if !slices.Equal(to.sends(t, "", name+"@x"), from.sends(t, "", snap)) {
			t.Fatal(i, "is sent on as another one")
		}
		// Its files are as those there, those that are made later too.
		a, c := from.Call("main", one(step.Create, "/later")), to.Call("whole", one(step.Create, "/later"))
		if a.Err != api.OK || c.Err != api.OK || a.N != c.N {
			t.Fatal(a, c)
		}
		from.all(t, "main", one(step.Unlink, "/later"))
		done(t, to.Destroy("whole"))
		to.cells(t)
		last = snap
	}
	to.imports(t)
	if to.looks(t, "r4") != from.looks(t, last) {
		t.Error("otherwise behind an Import")
	}
}

// refuses wants a stream of which a byte is turned, or that is cut, or goes on, or isn't one, to be refused; nothing is changed then.
func (b *bed) refuses(t *testing.T, rnd *rand.Rand, base, name string, s []byte) {
	t.Helper()
	l, free := b.view(t), b.free()
	for range 20 {
		turned := slices.Clone(s)
		turned[rnd.Intn(len(s))] ^= byte(1 + rnd.Intn(255))
		want(t, "Receive", b.Receive(base, name, turned), api.ErrForm)
		want(t, "Receive", b.Receive(base, name, s[:rnd.Intn(len(s))]), api.ErrForm)
		want(t, "Receive", b.Receive(base, name, append(slices.Clone(s), 0)), api.ErrForm)
	}
	body, e := sha.Open(s)
	want(t, "sha.Open", e, api.OK)
	want(t, "Receive", b.Receive(base, name, sha.Seal(body[:len(body)-1])), api.ErrForm)
	want(t, "Receive", b.Receive(base, name, nil), api.ErrForm)
	if b.view(t) != l || b.free() != free {
		t.Fatal("a stream that is refused changed something")
	}
}

// P18.1: what Send refuses.
func TestSendErrors(t *testing.T) {
	b := lay(t, 16, 800, 40)
	b.writes(t, "main", "/f", "abc")
	done(t, b.Snapshot("main@a"), b.Clone("main@a", "c"), b.Snapshot("c@x"))
	sends := func(from, to string, must api.Errno) {
		t.Helper()
		s, e := b.Send(from, to)
		if e != must || (len(s) > 0) != (e == api.OK) {
			t.Fatalf("Send(%q, %q): %d bytes, %d, not %d", from, to, len(s), e, must)
		}
	}
	for name, must := range noSuch() {
		if name == "no" {
			must = api.ErrName
		}
		sends("", name, must)
		sends("main@a", name, must)
		if name != "" {
			sends(name, "main@a", must)
			sends(name, "main", api.ErrName)
		}
	}
	sends("", "main", api.ErrName)
	sends("main", "main@a", api.ErrName)
	sends("no@a", "c", api.ErrName)
	sends("no@a", "no@b", api.ErrMiss)
	sends("", "main@a", api.OK)
	sends("main@a", "c@x", api.OK)
	for i := range 16 {
		b.writes(t, "main", fmt.Sprint("/", i), long(4096, i))
	}
	done(t, b.Snapshot("main@b"))
	sends("", "main@b", api.ErrBig)
	sends("main@a", "main@b", api.ErrBig)
	sends("main@b", "main@a", api.OK)
	b.all(t, "main", one(step.Unlink, "/3"), one(step.Unlink, "/4"), one(step.Unlink, "/5"))
	done(t, b.Snapshot("main@c"))
	sends("", "main@c", api.OK)
	done(t, b.Receive("", "whole", b.sends(t, "", "main@c")))
	if b.looks(t, "whole") != b.looks(t, "main") {
		t.Error("a long stream")
	}
}

// P18.4, P6: snapshots with all clones and snapshots that came of them, destroyed in any order: the cells that they took are free again.
func TestFreeBehind(t *testing.T) {
	t.Parallel()
	for seed := range 30 {
		rnd := rand.New(rand.NewSource(int64(seed)))
		b := lay(t, 5+seed%3, 900, 40)
		for i := range 12 {
			b.writes(t, "main", fmt.Sprint("/", i), long(rnd.Intn(900), i))
		}
		done(t, b.Sync())
		free := b.free()
		for i := range 2 {
			done(t, b.Snapshot(fmt.Sprint("main@", i)))
		}
		made := []string{"main@0", "main@1"}
		for i := range 7 {
			of := anyOf(rnd, made)
			name := fmt.Sprint("c", i)
			if slices.Contains([]byte(of), '@') {
				done(t, b.Clone(of, name))
				for range rnd.Intn(12) {
					b.writes(t, name, fmt.Sprint("/", rnd.Intn(20)), long(rnd.Intn(2000), i))
				}
			} else {
				name = of + "@" + fmt.Sprint(i)
				done(t, b.Snapshot(name))
				b.writes(t, of, fmt.Sprint("/", rnd.Intn(20)), long(rnd.Intn(2000), i))
			}
			made = append(made, name)
			done(t, b.Sync())
			b.cells(t)
		}
		for len(made) > 0 {
			i := rnd.Intn(len(made))
			if e := b.Destroy(made[i]); e == api.OK {
				made = slices.Delete(made, i, i+1)
				b.cells(t)
			} else {
				want(t, "Destroy", e, api.ErrBusy)
			}
			if rnd.Intn(5) == 0 {
				b.imports(t)
			}
		}
		done(t, b.Sync())
		if is := b.free(); is < free-150 {
			t.Errorf("%d: %d cells are free, %d ahead of it", seed, is, free)
		}
		b.lists(t, "main")
		for i := range 12 {
			if b.Call("main", one(step.Stat, fmt.Sprint("/", i))).Err != api.OK {
				t.Error(i)
			}
		}
	}
}
