package world_test

import (
	"math"
	"slices"
	"strings"
	"testing"

	"hoard/api"
	"hoard/tree"
	"hoard/world"
)

// The chapter's examples.
func TestExamples(t *testing.T) {
	b := lay(t)
	if n := b.makes(t, "/a/"); n != 2 {
		t.Error(n)
	}
	if n := b.makes(t, "/a/f"); n != 3 {
		t.Error(n)
	}
	all(t, b.Write(3, 2, "xy"))
	b.looks(t, "/a/f", world.Info{Ino: 3, Kind: 1, Size: 4, Links: 1})
	if s, e := b.Read(3, 0, 9); s != "\x00\x00xy" || e != api.OK {
		t.Errorf("%q, %d", s, e)
	}
	all(t, b.Link("/a/f", "/g"), b.Unlink("/a/f"))
	b.looks(t, "/g", world.Info{Ino: 3, Kind: 1, Size: 4, Links: 1})
	b.noMake(t, "/a/f/g", 1, api.ErrMiss)
	b.noMake(t, "/g/h", 1, api.ErrFile)
	b.noRename(t, "/a", "/a/b", api.ErrLoop)
	all(t, b.Rmdir("/a"))
	b.noRmdir(t, "/", api.ErrName)
}

// P14.1: a tree without pairs gets the root directory, which is a change of it; a second New changes nothing.
func TestNew(t *testing.T) {
	b := lay(t)
	if !b.x.Dirty() || len(b.pairs(t)) == 0 {
		t.Error("no change")
	}
	b.looks(t, "/", world.Info{Ino: 1, Kind: 2, Links: 1})
	b.lists(t, "/")
	root := b.syncs(t)
	was := b.pairs(t)
	b = b.on(t, b.x)
	if b.x.Dirty() || !slices.Equal(b.pairs(t), was) {
		t.Error("a change")
	}
	b = b.open(t, root)
	if b.x.Dirty() || !slices.Equal(b.pairs(t), was) {
		t.Error("a change")
	}
	b.looks(t, "/", world.Info{Ino: 1, Kind: 2, Links: 1})
	for _, x := range []*tree.Tree{nil, {}} {
		if w, e := world.New(x); w != nil || e != api.ErrArg {
			t.Error(w, e)
		}
	}
}

// P1, P14.1: a world that is none.
func TestNil(t *testing.T) {
	for _, w := range []*world.World{nil, {}} {
		for _, s := range []string{"", "a", "/", "/a"} {
			for _, n := range []int{math.MinInt, -1, 0, 1, 2, 5000, math.MaxInt} {
				a, e1 := w.Look(s)
				i, e2 := w.Info(n)
				m, e3 := w.Make(s, n)
				l, e4 := w.List(s)
				b, e5 := w.Read(n, n, n)
				if a != (world.Info{}) || i != a || m != 0 || len(l) > 0 || b != "" {
					t.Error(a, i, m, l, b)
				}
				for k, e := range []api.Errno{
					e1, e2, e3, e4, e5, w.Link(s, s), w.Unlink(s), w.Rmdir(s), w.Rename(s, s), w.Write(n, n, s), w.Truncate(n, n),
				} {
					if e != api.ErrArg {
						t.Error(k, s, n, e)
					}
				}
			}
		}
	}
}

// P14.1: numbers rise by one, whatever was taken away; what is refused takes none.
func TestNumbers(t *testing.T) {
	b := lay(t)
	if n := b.makes(t, "/a/", "/a/f", "/g"); n != 4 {
		t.Error(n)
	}
	b.noMake(t, "/g", 1, api.ErrThere)
	b.noMake(t, "/h", 3, api.ErrArg)
	b.noMake(t, "/x/y", 2, api.ErrMiss)
	all(t, b.Unlink("/g"))
	if n := b.makes(t, "/g"); n != 5 {
		t.Error(n)
	}
	all(t, b.Unlink("/a/f"), b.Rmdir("/a"), b.Unlink("/g"))
	b.lists(t, "/")
	b = b.on(t, b.x)
	if n := b.makes(t, "/g/"); n != 6 {
		t.Error(n)
	}
	all(t, b.Rmdir("/g"))
	b = b.open(t, b.syncs(t))
	if n := b.makes(t, "/h"); n != 7 {
		t.Error(n)
	}
	for _, n := range []int{2, 3, 4, 5, 6, 8, 0, -1, math.MinInt, math.MaxInt} {
		if x, e := b.Info(n); x != (world.Info{}) || e != api.ErrMiss {
			t.Error(n, x, e)
		}
	}
	c := b.on(t, b.x.Copy())
	all(t, b.Unlink("/h"))
	if m, n := b.makes(t, "/i"), c.makes(t, "/j/"); m != 8 || n != 8 {
		t.Error(m, n)
	}
}

// P14.1: kinds that are none.
func TestKinds(t *testing.T) {
	b := lay(t)
	for _, kind := range []int{math.MinInt, -1, 0, 3, 257, 258, math.MaxInt} {
		for _, path := range []string{"/a", "/", "", "/x/y"} {
			b.noMake(t, path, kind, api.ErrArg)
		}
	}
	b.makes(t, "/f", "/d/")
	b.looks(t, "/f", world.Info{Ino: 2, Kind: 1, Links: 1})
	b.looks(t, "/d", world.Info{Ino: 3, Kind: 2, Links: 1})
}

// P14.1: names that a file has, up to as many as it may; each is the file.
func TestLink(t *testing.T) {
	b := lay(t)
	b.makes(t, "/f", "/d/")
	all(t, b.Write(2, 0, "abc"))
	names := []string{"/f"}
	for i := range 7 {
		to := "/d/" + string(name16[i])
		all(t, b.Link(names[i/2], to))
		names = append(names, to)
		for _, path := range names {
			b.looks(t, path, world.Info{Ino: 2, Kind: 1, Size: 3, Links: i + 2})
		}
	}
	b.noLink(t, "/f", "/g", api.ErrBig)
	b.noLink(t, "/d/a", "/d/g", api.ErrThere)
	b.noLink(t, "/f", "/f", api.ErrThere)
	b.noLink(t, "/f", "/f/g", api.ErrFile)
	b.noLink(t, "/f", "/x/g", api.ErrMiss)
	b.noLink(t, "/f", "/", api.ErrName)
	b.noLink(t, "/d", "/g", api.ErrDir)
	b.noLink(t, "/", "/g", api.ErrDir)
	b.noLink(t, "/d", "/d", api.ErrDir)
	for i, path := range names {
		all(t, b.Unlink(path))
		b.noUnlink(t, path, api.ErrMiss)
		if i == 7 {
			break
		}
		b.looks(t, names[7], world.Info{Ino: 2, Kind: 1, Size: 3, Links: 7 - i})
		b.reads(t, 2, "abc")
	}
	b.noRead(t, 2, 0, 1, api.ErrMiss)
	b.lists(t, "/", "d")
	b.lists(t, "/d")
	all(t, b.Rmdir("/d"))
}

// P14.1: with its last name a file is gone with its bytes: no pair is left of it.
func TestUnlink(t *testing.T) {
	b := lay(t)
	b.makes(t, "/d/")
	for _, size := range []int{0, 1, 255, 256, 257, 4095, 4096} {
		was := b.pairs(t)
		ino := b.makes(t, "/d/f")
		all(t, b.Write(ino, 0, long(size)), b.Link("/d/f", "/g"), b.Unlink("/g"), b.Unlink("/d/f"))
		if now := b.pairs(t); len(now) != len(was) {
			t.Errorf("%d pairs, not %d", len(now), len(was))
		}
		b.noRead(t, ino, 0, 1, api.ErrMiss)
		b.noWrite(t, ino, 0, "a", api.ErrMiss)
		b.noTruncate(t, ino, 1, api.ErrMiss)
		// Another one in its place has none of its bytes.
		ino = b.makes(t, "/d/f")
		all(t, b.Truncate(ino, size))
		b.reads(t, ino, noughts(size))
		all(t, b.Unlink("/d/f"))
	}
	b.noUnlink(t, "/d", api.ErrDir)
}

// P14.1: Rmdir's errors in their order; a directory without names is there no longer.
func TestRmdir(t *testing.T) {
	b := lay(t)
	b.makes(t, "/d/", "/d/e/", "/d/e/f", "/g")
	b.noRmdir(t, "/g", api.ErrFile)
	b.noRmdir(t, "/d/e/f", api.ErrFile)
	b.noRmdir(t, "/d", api.ErrFull)
	b.noRmdir(t, "/d/e", api.ErrFull)
	all(t, b.Unlink("/d/e/f"), b.Rmdir("/d/e"))
	b.lacks(t, "/d/e", api.ErrMiss)
	b.noRmdir(t, "/d/e", api.ErrMiss)
	b.noMake(t, "/d/e/f", 1, api.ErrMiss)
	if _, e := b.Info(3); e != api.ErrMiss {
		t.Error(e)
	}
	all(t, b.Rmdir("/d"), b.Unlink("/g"))
	b.lists(t, "/")
}

// P14.1: names rise byte by byte; those of other directories, of numbers near and far, aren't told.
func TestList(t *testing.T) {
	b := lay(t)
	b.noList(t, "/x", api.ErrMiss)
	names := []string{"!", "-", "..a", "0", "A", "Z", "a", "a!", "aa", "ab", "b", name16, "~", "~~"}
	slices.Sort(names)
	for _, s := range []string{"a", "~", "!", "b", "aa", "ab", "a!", "0", "Z", "A", "-", "..a", "~~", name16} {
		b.makes(t, "/"+s+"/", "/"+s+"/"+strings.ToUpper(s), "/"+s+"/x/")
	}
	b.lists(t, "/", names...)
	for _, s := range names {
		b.lists(t, "/"+s, slices.Sorted(slices.Values([]string{strings.ToUpper(s), "x"}))...)
		b.noList(t, "/"+s+"/"+strings.ToUpper(s), api.ErrFile)
		b.lists(t, "/"+s+"/x")
	}
}

// P14.1: more files and names than a block has room for, and numbers of several bytes.
func TestMany(t *testing.T) {
	b := lay(t)
	b.makes(t, "/d/")
	var names []string
	for i := range 700 {
		s := "n" + strings.Repeat("0", i%3) + string(name16[i%16]) + strings.Repeat("z", i/64)
		if slices.Contains(names, s) {
			continue
		}
		names = append(names, s)
		ino := b.makes(t, "/d/"+s)
		if ino != len(names)+2 {
			t.Fatal(ino)
		}
		all(t, b.Write(ino, i, s))
	}
	slices.Sort(names)
	b.lists(t, "/d", names...)
	b.noRmdir(t, "/d", api.ErrFull)
	for _, s := range names {
		x, e := b.Look("/d/" + s)
		want(t, "Look", e, api.OK)
		if got, e := b.Read(x.Ino, x.Size-len(s), 99); got != s || e != api.OK {
			t.Fatalf("%q: %q, %d", s, got, e)
		}
		all(t, b.Unlink("/d/"+s))
	}
	all(t, b.Rmdir("/d"))
	b.lists(t, "/")
}
