package world_test

import (
	"testing"

	"hoard/api"
	"hoard/world"
)

// P14.1: Rename of files and directories, within one directory and to another one.
func TestRename(t *testing.T) {
	b := lay(t)
	b.makes(t, "/a/", "/a/f", "/b/", "/b/c/")
	all(t, b.Write(3, 0, "xyz"), b.Rename("/a/f", "/a/g"))
	b.lists(t, "/a", "g")
	b.looks(t, "/a/g", world.Info{Ino: 3, Kind: 1, Size: 3, Links: 1})
	all(t, b.Rename("/a/g", "/b/c/h"))
	b.lists(t, "/a")
	b.lacks(t, "/a/g", api.ErrMiss)
	b.reads(t, 3, "xyz")
	all(t, b.Rename("/b", "/a/b"))
	b.lists(t, "/", "a")
	b.looks(t, "/a/b/c/h", world.Info{Ino: 3, Kind: 1, Size: 3, Links: 1})
	b.looks(t, "/a/b/c", world.Info{Ino: 5, Kind: 2, Links: 1})
	all(t, b.Rename("/a/b/c", "/c"), b.Rename("/a", "/c/a"))
	b.lists(t, "/", "c")
	b.lists(t, "/c", "a", "h")
	b.lists(t, "/c/a", "b")
}

// P14.1: a file in the place of another one, which loses that name, and is gone with its last one.
func TestRenameOver(t *testing.T) {
	b := lay(t)
	b.makes(t, "/f", "/g", "/d/")
	all(t, b.Write(2, 0, "f"), b.Write(3, 0, long(4096)), b.Link("/g", "/h"), b.Rename("/f", "/g"))
	b.lists(t, "/", "d", "g", "h")
	b.looks(t, "/g", world.Info{Ino: 2, Kind: 1, Size: 1, Links: 1})
	b.looks(t, "/h", world.Info{Ino: 3, Kind: 1, Size: 4096, Links: 1})
	b.reads(t, 3, long(4096))
	was := len(b.pairs(t))
	all(t, b.Rename("/g", "/h"))
	b.lists(t, "/", "d", "h")
	b.reads(t, 2, "f")
	b.noRead(t, 3, 0, 1, api.ErrMiss)
	if n := len(b.pairs(t)); n != was-18 { // a name, what was known of it, 16 chunks
		t.Errorf("%d pairs, not %d", n, was-18)
	}
	b = b.on(t, b.x)
}

// P14.1: Rename's errors, in their order, each ahead of all behind it.
func TestRenameErrors(t *testing.T) {
	b := lay(t)
	b.makes(t, "/f", "/d/", "/d/e/", "/d/g", "/n/")
	all(t, b.Link("/f", "/d/l"))
	for _, c := range []struct {
		from, to string
		must     api.Errno
	}{
		{"/x", "", api.ErrName}, {"", "/x", api.ErrName}, {"/d", "/", api.ErrName}, {"/", "/d", api.ErrName}, {"/d", deep("d", 9), api.ErrName},
		{"/x", "/x", api.ErrMiss}, {"/x", "/x/y", api.ErrMiss}, {"/f/x", "/f/x", api.ErrFile}, {"/x", "/f/y", api.ErrMiss}, {"/f/x", "/y/z", api.ErrFile}, {"/x/y", "/d", api.ErrMiss},
		{"/d", "/d/x", api.ErrLoop}, {"/d", "/d/e", api.ErrLoop}, {"/d", "/d/g", api.ErrLoop}, {"/d", "/d/x/y", api.ErrLoop}, {"/d", "/d/g/y", api.ErrLoop}, {"/d/e", "/d/e/e", api.ErrLoop}, {"/d", deep("d", 8), api.ErrLoop},
		{"/f", "/f/x", api.ErrFile}, {"/f", "/x/y", api.ErrMiss}, {"/d", "/x/y", api.ErrMiss}, {"/d", "/f/y", api.ErrFile}, {"/d", "/dd/y", api.ErrMiss}, {"/f", "/d/g/x/y", api.ErrFile},
		{"/f", "/f", api.OK}, {"/f", "/d/l", api.OK}, {"/d/l", "/f", api.OK}, {"/d", "/d", api.OK}, {"/n", "/n", api.OK}, {"/d/e", "/d/e", api.OK},
		{"/f", "/d", api.ErrDir}, {"/f", "/n", api.ErrDir}, {"/d/g", "/d", api.ErrDir},
		{"/d", "/f", api.ErrFile}, {"/n", "/d/g", api.ErrFile}, {"/d/e", "/d/g", api.ErrFile},
		{"/n", "/d", api.ErrFull}, {"/d/e", "/d", api.ErrFull},
	} {
		b.noRename(t, c.from, c.to, c.must)
	}
}

// P14.1: a directory in the place of one without names, which is gone then.
func TestRenameDir(t *testing.T) {
	b := lay(t)
	b.makes(t, "/a/", "/a/f", "/b/", "/c/", "/c/d/")
	all(t, b.Rename("/a", "/b"))
	b.lists(t, "/", "b", "c")
	b.looks(t, "/b", world.Info{Ino: 2, Kind: 2, Links: 1})
	b.lists(t, "/b", "f")
	if _, e := b.Info(4); e != api.ErrMiss {
		t.Error(e)
	}
	all(t, b.Rename("/b", "/c/d"))
	b.lists(t, "/", "c")
	b.lists(t, "/c/d", "f")
	b.noRename(t, "/c/d", "/c", api.ErrFull)
	all(t, b.Rename("/c/d", "/d"))
	b.noRename(t, "/c", "/d", api.ErrFull)
	all(t, b.Rename("/d", "/c"))
	b.lists(t, "/c", "f")
	if n := b.makes(t, "/z"); n != 7 {
		t.Error(n)
	}
}

// P14.1: what is below a directory would have more than eight names: of files and directories, just enough and one more.
func TestRenameDepth(t *testing.T) {
	for below := range 8 { // so many names below the directory that is moved
		b := lay(t)
		path := "/m"
		b.makes(t, "/m/", "/m/side/", "/m/zz/")
		for n := range below {
			path += "/s"
			if n == below-1 && below%2 == 1 {
				b.makes(t, path)
			} else {
				b.makes(t, path+"/")
			}
		}
		below = max(1, below) // there are /m/side and /m/zz
		at := ""
		for n := 1; n <= 8; n++ {
			to := at + "/t"
			if n+below <= 8 {
				all(t, b.Rename("/m", to), b.Rename(to, "/m"))
			} else {
				b.noRename(t, "/m", to, api.ErrBig)
				b.makes(t, to+"/")
				b.noRename(t, "/m", to, api.ErrBig)
				all(t, b.Rmdir(to))
				b.makes(t, to)
				b.noRename(t, "/m", to, api.ErrFile)
				all(t, b.Unlink(to))
			}
			at += "/e"
			b.makes(t, at+"/")
		}
		b.noRename(t, "/m", "/e", api.ErrFull)
		b.noRename(t, "/m", "/m"+deep("t", 7), api.ErrLoop)
		all(t, b.Rmdir("/m/side"), b.Rmdir("/m/zz"))
		if below == 1 && path == "/m" {
			all(t, b.Rename("/m", deep("e", 8)))
			b.lists(t, deep("e", 8))
		}
	}
}

// P14.1: a file is moved to the deepest place; a directory without names too.
func TestRenameDeepest(t *testing.T) {
	b := lay(t)
	for n := range 7 {
		b.makes(t, deep("d", n+1)+"/")
	}
	b.makes(t, "/f", "/e/")
	all(t, b.Rename("/f", deep("d", 7)+"/f"), b.Rename("/e", deep("d", 7)+"/e"))
	b.lists(t, deep("d", 7), "e", "f")
	b.noRename(t, "/d", "/c/d", api.ErrMiss)
	b.makes(t, "/c/")
	b.noRename(t, "/d", "/c/d", api.ErrBig)
	all(t, b.Unlink(deep("d", 7)+"/f"))
	b.noRename(t, "/d", "/c/d", api.ErrBig)
	all(t, b.Rmdir(deep("d", 7)+"/e"), b.Rename("/d", "/c/d"))
	b.lists(t, "/c"+deep("d", 6), "d")
}
