package world_test

import (
	"fmt"
	"math"
	"math/rand"
	"slices"
	"strings"
	"testing"

	"hoard/api"
	"hoard/array"
	"hoard/rack"
	"hoard/store"
	"hoard/tree"
	"hoard/world"
)

// bed is a world with all that it stands on.
type bed struct {
	*world.World
	x *tree.Tree
	s *store.Store
	a *array.Array
	r *rack.Rack
}

// lay makes a world on new drives.
func lay(t *testing.T) bed {
	t.Helper()
	return layOn(t, 5, 2000)
}

// layOn does so on so many drives of so many sectors.
func layOn(t *testing.T, drives, sectors int) bed {
	t.Helper()
	r, e := rack.New(drives, sectors)
	want(t, "rack.New", e, api.OK)
	a, e := array.New(r, 0)
	want(t, "array.New", e, api.OK)
	s, e := store.New(a, nil, 1)
	want(t, "store.New", e, api.OK)
	return bed{s: s, a: a, r: r}.open(t, api.Ptr{})
}

// open is the world in the tree of a root.
func (b bed) open(t *testing.T, root api.Ptr) bed {
	t.Helper()
	x, e := tree.Open(b.s, root)
	want(t, "tree.Open", e, api.OK)
	return b.on(t, x)
}

// on is the world in a tree.
func (b bed) on(t *testing.T, x *tree.Tree) bed {
	t.Helper()
	w, e := world.New(x)
	if w == nil || e != api.OK {
		t.Fatalf("New: %v, %d", w, e)
	}
	b.World, b.x = w, x
	return b
}

// syncs writes the tree: its root.
func (b bed) syncs(t *testing.T) api.Ptr {
	t.Helper()
	p, _, e := b.x.Sync()
	want(t, "Sync", e, api.OK)
	return p
}

// pairs are all pairs of the tree.
func (b bed) pairs(t *testing.T) []api.Pair {
	t.Helper()
	l, e := b.x.Range("", "", math.MaxInt)
	want(t, "Range", e, api.OK)
	return l
}

// want holds an error against the one that must be.
func want(t *testing.T, what string, got, must api.Errno) {
	t.Helper()
	if got != must {
		t.Fatalf("%s: error %d, not %d", what, got, must)
	}
}

// all wants each of some calls to be done.
func all(t *testing.T, errors ...api.Errno) {
	t.Helper()
	for i, e := range errors {
		if e != api.OK {
			t.Fatalf("call %d: error %d", i, e)
		}
	}
}

// makes makes directories (their paths end with a slash) and files, and tells the last number.
func (b bed) makes(t *testing.T, paths ...string) int {
	t.Helper()
	ino := 0
	for _, path := range paths {
		kind := 1
		if p, ok := strings.CutSuffix(path, "/"); ok {
			path, kind = p, 2
		}
		n, e := b.Make(path, kind)
		want(t, "Make "+path, e, api.OK)
		ino = n
	}
	return ino
}

// looks holds Look, and Info of what it tells, to what must be.
func (b bed) looks(t *testing.T, path string, must world.Info) {
	t.Helper()
	if x, e := b.Look(path); x != must || e != api.OK {
		t.Fatalf("Look(%q): %v, %d, not %v", path, x, e, must)
	}
	if x, e := b.Info(must.Ino); x != must || e != api.OK {
		t.Fatalf("Info(%d): %v, %d, not %v", must.Ino, x, e, must)
	}
}

// lacks holds Look to an error.
func (b bed) lacks(t *testing.T, path string, must api.Errno) {
	t.Helper()
	if x, e := b.Look(path); x != (world.Info{}) || e != must {
		t.Fatalf("Look(%q): %v, %d, not %d", path, x, e, must)
	}
}

// lists holds List to names.
func (b bed) lists(t *testing.T, path string, names ...string) {
	t.Helper()
	if l, e := b.List(path); e != api.OK || !slices.Equal(l, names) {
		t.Fatalf("List(%q): %q, %d, not %q", path, l, e, names)
	}
}

// reads holds Read of a whole file, and its size, to bytes.
func (b bed) reads(t *testing.T, ino int, must string) {
	t.Helper()
	if s, e := b.Read(ino, 0, math.MaxInt); s != must || e != api.OK {
		t.Fatalf("Read(%d): %q, %d, not %q", ino, s, e, must)
	}
	if x, e := b.Info(ino); x.Size != len(must) || e != api.OK {
		t.Fatalf("Info(%d): %v, %d, not of %d bytes", ino, x, e, len(must))
	}
}

// same wants a call that is refused, or has nothing to do, to change nothing.
func (b bed) same(t *testing.T, what string, must api.Errno, call func() api.Errno) {
	t.Helper()
	was, dirty := b.pairs(t), b.x.Dirty()
	want(t, what, call(), must)
	if !slices.Equal(b.pairs(t), was) || b.x.Dirty() != dirty {
		t.Fatalf("%s changed something", what)
	}
}

// noMake holds a Make to an error.
func (b bed) noMake(t *testing.T, path string, kind int, must api.Errno) {
	t.Helper()
	b.same(t, fmt.Sprintf("Make(%q, %d)", path, kind), must, func() api.Errno {
		n, e := b.Make(path, kind)
		if n != 0 && e != api.OK {
			t.Fatal(path, n, e)
		}
		return e
	})
}

// noRename holds a Rename that changes nothing to its error; the others are named likewise.
func (b bed) noRename(t *testing.T, from, to string, must api.Errno) {
	t.Helper()
	b.same(t, fmt.Sprintf("Rename(%q, %q)", from, to), must, func() api.Errno { return b.Rename(from, to) })
}

func (b bed) noLink(t *testing.T, path, to string, must api.Errno) {
	t.Helper()
	b.same(t, fmt.Sprintf("Link(%q, %q)", path, to), must, func() api.Errno { return b.Link(path, to) })
}

func (b bed) noUnlink(t *testing.T, path string, must api.Errno) {
	t.Helper()
	b.same(t, fmt.Sprintf("Unlink(%q)", path), must, func() api.Errno { return b.Unlink(path) })
}

func (b bed) noRmdir(t *testing.T, path string, must api.Errno) {
	t.Helper()
	b.same(t, fmt.Sprintf("Rmdir(%q)", path), must, func() api.Errno { return b.Rmdir(path) })
}

func (b bed) noList(t *testing.T, path string, must api.Errno) {
	t.Helper()
	if l, e := b.List(path); len(l) > 0 || e != must {
		t.Fatalf("List(%q): %q, %d, not %d", path, l, e, must)
	}
}

func (b bed) noRead(t *testing.T, ino, off, n int, must api.Errno) {
	t.Helper()
	if s, e := b.Read(ino, off, n); s != "" || e != must {
		t.Fatalf("Read(%d, %d, %d): %q, %d, not %d", ino, off, n, s, e, must)
	}
}

func (b bed) noWrite(t *testing.T, ino, off int, s string, must api.Errno) {
	t.Helper()
	b.same(t, fmt.Sprintf("Write(%d, %d, %d bytes)", ino, off, len(s)), must, func() api.Errno { return b.Write(ino, off, s) })
}

func (b bed) noTruncate(t *testing.T, ino, size int, must api.Errno) {
	t.Helper()
	b.same(t, fmt.Sprintf("Truncate(%d, %d)", ino, size), must, func() api.Errno { return b.Truncate(ino, size) })
}

// long is a text of n bytes, all of them other than nought.
func long(n int) string {
	b := make([]byte, n)
	for i := range b {
		b[i] = byte(1 + i%251)
	}
	return string(b)
}

// noughts is a text of n noughts.
func noughts(n int) string { return strings.Repeat("\x00", n) }

// deep is a path of n names, all of them one.
func deep(name string, n int) string { return strings.Repeat("/"+name, n) }

// anyOf is one of a list.
func anyOf[T any](rnd *rand.Rand, l []T) T { return l[rnd.Intn(len(l))] }
