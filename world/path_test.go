package world_test

import (
	"slices"
	"strings"
	"testing"

	"hoard/api"
	"hoard/world"
)

// name16 is the longest name.
const name16 = "abcdefghijklmnop"

// wrongPaths are no paths.
var wrongPaths = []string{
	"", "a", "a/b", "a/", "//", "///", "/a/", "//a", "/a//b", "/a/b/", "/.", "/..", "/a/.", "/a/..", "/./a", "/../a",
	" ", "/ ", " /a", "/a ", "/a b", "/\x20", "/\x7f", "/\x00", "/a\x00", "/\x80", "/\xff", "/é", "/a\tb", "/a\n", ".", "..", "\\a",
	"/" + name16 + "q", "/a/" + name16 + "q", deep("a", 9), deep("a", 8) + "/", deep("a", 7) + "//", deep(name16, 9), strings.Repeat("/", 1000),
	deep("a", 100000), "/" + strings.Repeat("a", 100000),
}

// P14.1: Names of paths and of what is none.
func TestNames(t *testing.T) {
	for path, must := range map[string][]string{
		"/": nil, "/a": {"a"}, "/a/b": {"a", "b"}, "/...": {"..."}, "/.a": {".a"}, "/a.": {"a."}, "/..a": {"..a"}, "/!/~": {"!", "~"},
		"/a\\b": {"a\\b"}, "/" + name16: {name16}, "/-/+/@": {"-", "+", "@"}, "/.../..../a": {"...", "....", "a"},
		deep("a", 8):    {"a", "a", "a", "a", "a", "a", "a", "a"},
		deep(name16, 8): slices.Repeat([]string{name16}, 8),
	} {
		if l, e := world.Names(path); !slices.Equal(l, must) || e != api.OK {
			t.Errorf("%q: %q, %d", path, l, e)
		}
	}
	for c := range 256 {
		l, e := world.Names("/x" + string([]byte{byte(c)}) + "y")
		switch {
		case c == '/':
			if !slices.Equal(l, []string{"x", "y"}) || e != api.OK {
				t.Error(l, e)
			}
		case c >= 0x21 && c <= 0x7e:
			if !slices.Equal(l, []string{"x" + string([]byte{byte(c)}) + "y"}) || e != api.OK {
				t.Error(c, l, e)
			}
		default:
			if len(l) > 0 || e != api.ErrName {
				t.Error(c, l, e)
			}
		}
	}
	for _, path := range wrongPaths {
		if l, e := world.Names(path); len(l) > 0 || e != api.ErrName {
			t.Errorf("%q: %q, %d", path, l, e)
		}
	}
}

// P14.1, P14.2: no call takes what isn't a path, whatever is wrong else but what is named ahead.
func TestWrongPaths(t *testing.T) {
	b := lay(t)
	b.makes(t, "/d/", "/d/f", "/f")
	for _, path := range wrongPaths {
		b.lacks(t, path, api.ErrName)
		b.noList(t, path, api.ErrName)
		b.noMake(t, path, 1, api.ErrName)
		b.noMake(t, path, 2, api.ErrName)
		b.noMake(t, path, 3, api.ErrArg)
		b.noUnlink(t, path, api.ErrName)
		b.noRmdir(t, path, api.ErrName)
		b.noLink(t, path, "/g", api.ErrName)
		b.noLink(t, path, path, api.ErrName)
		b.noLink(t, "/f", path, api.ErrName)
		b.noLink(t, "/d", path, api.ErrDir)
		b.noLink(t, "/x", path, api.ErrMiss)
		b.noLink(t, "/f/x", path, api.ErrFile)
		b.noRename(t, path, "/g", api.ErrName)
		b.noRename(t, path, path, api.ErrName)
		for _, from := range []string{"/f", "/d", "/x", "/f/x", "/"} {
			b.noRename(t, from, path, api.ErrName)
		}
	}
	b.noMake(t, "/", 1, api.ErrName)
	b.noMake(t, "/", 0, api.ErrArg)
	b.noLink(t, "/f", "/", api.ErrName)
	b.noLink(t, "/", "/", api.ErrDir)
	b.noUnlink(t, "/", api.ErrDir)
	b.noRmdir(t, "/", api.ErrName)
	b.noRename(t, "/", "/g", api.ErrName)
	b.noRename(t, "/f", "/", api.ErrName)
	b.noRename(t, "/x", "/", api.ErrName)
	b.noRename(t, "/", "/", api.ErrName)
}

// P14.1: of a name that names a file and one that lacks, the one that is met first.
func TestLookUp(t *testing.T) {
	b := lay(t)
	b.makes(t, "/d/", "/d/f", "/d/e/")
	for path, must := range map[string]api.Errno{
		"/x": api.ErrMiss, "/x/y": api.ErrMiss, "/d/x": api.ErrMiss, "/d/x/f": api.ErrMiss, "/d/f/x": api.ErrFile, "/d/f/x/y/z": api.ErrFile,
		"/d/e/x": api.ErrMiss, "/d/e/x/f/y": api.ErrMiss, "/f": api.ErrMiss, "/d/f/f": api.ErrFile, "/D": api.ErrMiss, "/dd": api.ErrMiss,
	} {
		b.lacks(t, path, must)
		b.noList(t, path, must)
		b.noUnlink(t, path, must)
		b.noRmdir(t, path, must)
		b.noLink(t, path, "/g", must)
		b.noLink(t, path, "/", must)
		b.noLink(t, path, "/d", must)
		b.noRename(t, path, "/g", must)
		b.noRename(t, path, path, must)
		b.noRename(t, path, path+"/a", must)
	}
	for path, must := range map[string]api.Errno{
		"/x/y": api.ErrMiss, "/d/x/y": api.ErrMiss, "/d/x/f/z": api.ErrMiss, "/d/f/x": api.ErrFile, "/d/f/x/y": api.ErrFile, "/d/e/x/y": api.ErrMiss,
		"/d": api.ErrThere, "/d/f": api.ErrThere, "/d/e": api.ErrThere,
	} {
		b.noMake(t, path, 1, must)
		b.noMake(t, path, 2, must)
		b.noMake(t, path, -1, api.ErrArg)
		b.noLink(t, "/d/f", path, must)
		if must != api.ErrThere {
			b.noRename(t, "/d/f", path, must)
		}
	}
	b.looks(t, "/", world.Info{Ino: 1, Kind: 2, Links: 1})
	b.looks(t, "/d", world.Info{Ino: 2, Kind: 2, Links: 1})
	b.looks(t, "/d/f", world.Info{Ino: 3, Kind: 1, Links: 1})
	b.looks(t, "/d/e", world.Info{Ino: 4, Kind: 2, Links: 1})
}

// P14.1: a directory at the end of the longest path; nothing is made below it.
func TestDeepest(t *testing.T) {
	b := lay(t)
	for n := range 8 {
		b.makes(t, deep(name16, n+1)+"/")
	}
	b.looks(t, deep(name16, 8), world.Info{Ino: 9, Kind: 2, Links: 1})
	b.lists(t, deep(name16, 7), name16)
	b.lists(t, deep(name16, 8))
	b.noMake(t, deep(name16, 9), 1, api.ErrName)
	b.makes(t, deep(name16, 7)+"/f")
	all(t, b.Link(deep(name16, 7)+"/f", deep(name16, 7)+"/g"), b.Rename(deep(name16, 7)+"/f", "/f"))
	b.lists(t, deep(name16, 7), name16, "g")
	all(t, b.Rename("/f", deep(name16, 7)+"/f"), b.Rmdir(deep(name16, 8)))
	b.lists(t, deep(name16, 7), "f", "g")
}

// P14.4: what Names and List answer is new memory.
func TestNewMemory(t *testing.T) {
	one, _ := world.Names("/a/b/c")
	two, _ := world.Names("/a/b/c")
	clear(one[:cap(one)])
	if !slices.Equal(two, []string{"a", "b", "c"}) {
		t.Error(two)
	}
	b := lay(t)
	b.makes(t, "/a", "/b", "/c")
	one, _ = b.List("/")
	two, _ = b.List("/")
	clear(one[:cap(one)])
	if !slices.Equal(two, []string{"a", "b", "c"}) {
		t.Error(two)
	}
	b.lists(t, "/", "a", "b", "c")
}
