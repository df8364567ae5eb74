package world_test

import (
	"fmt"
	"slices"
	"strings"
	"testing"

	"hoard/api"
	"hoard/tree"
	"hoard/world"
)

// key is a number, as it stands in the tree.
func key(n int) string {
	return string([]byte{byte(n >> 56), byte(n >> 48), byte(n >> 40), byte(n >> 32), byte(n >> 24), byte(n >> 16), byte(n >> 8), byte(n)})
}

// known is what is known of a number, as it stands there.
func known(kind, size, links int) string {
	return string([]byte{byte(kind), byte(size >> 8), byte(size), byte(links)})
}

// treeOf is a tree of pairs.
func (b bed) treeOf(t *testing.T, l []api.Pair) *tree.Tree {
	t.Helper()
	x, e := tree.Open(b.s, api.Ptr{})
	want(t, "tree.Open", e, api.OK)
	for _, p := range l {
		want(t, "Put", x.Put(p.Key, p.Val), api.OK)
	}
	return x
}

// refuses wants pairs to be no world's, and not to be changed.
func (b bed) refuses(t *testing.T, what string, l []api.Pair) {
	t.Helper()
	x := b.treeOf(t, l)
	_, _, e := x.Sync()
	want(t, "Sync", e, api.OK)
	if w, e := world.New(x); w != nil || e != api.ErrForm {
		t.Errorf("%s: %v, %d", what, w, e)
	}
	if x.Dirty() {
		t.Errorf("%s: changed", what)
	}
}

// laid is a world with a bit of all, and its pairs.
func laid(t *testing.T) (bed, []api.Pair) {
	t.Helper()
	b := lay(t)
	b.makes(t, "/a/", "/a/f", "/g", "/a/e/", "/b/")
	all(t, b.Write(3, 200, long(600)), b.Write(4, 0, "abc"), b.Truncate(4, 300), b.Link("/g", "/a/h"), b.Rmdir("/b"))
	return b, b.pairs(t)
}

// with is pairs with another one, in the place of one of its key.
func with(l []api.Pair, key, val string) []api.Pair {
	l = slices.DeleteFunc(slices.Clone(l), func(p api.Pair) bool { return p.Key == key })
	return append(l, api.Pair{Key: key, Val: val})
}

// P14.1: pairs that nobody would take for a world's.
func TestNoWorld(t *testing.T) {
	b := lay(t)
	for _, l := range [][]api.Pair{
		{{Key: "a", Val: "1"}}, {{Key: "a"}}, {{Key: "\x00"}}, {{Key: "/", Val: "/"}}, {{Key: strings.Repeat("k", 24), Val: strings.Repeat("v", 300)}},
		{{Key: "a", Val: "1"}, {Key: "b", Val: "2"}}, {{Key: key(0)}}, {{Key: key(0), Val: key(1)}}, {{Key: key(1), Val: known(2, 0, 1)}},
		{{Key: key(0)}, {Key: key(1), Val: known(2, 0, 1)}}, {{Key: key(0), Val: key(0)}, {Key: key(1), Val: known(2, 0, 1)}},
		{{Key: key(0), Val: key(-1)}, {Key: key(1), Val: known(2, 0, 1)}}, {{Key: key(0), Val: key(1) + "x"}, {Key: key(1), Val: known(2, 0, 1)}},
		{{Key: key(0), Val: known(2, 0, 1)}}, {{Key: key(0), Val: key(1)}, {Key: key(2), Val: known(2, 0, 1)}},
	} {
		b.refuses(t, fmt.Sprint(l), l)
	}
	for _, p := range b.pairs(t) {
		b.refuses(t, "one alone", []api.Pair{p})
	}
}

// P14.1: a world's tree without one of its pairs, or with another value of it, is none; but for what would be other bytes, or a file in the place of a directory without names.
func TestNearlyWorld(t *testing.T) {
	b, l := laid(t)
	if w, e := world.New(b.treeOf(t, l)); w == nil || e != api.OK {
		t.Fatal(w, e)
	}
	for i, p := range l {
		isChunk := len(p.Key) == 9 && p.Key[8] < 16
		for _, s := range []string{"drop", "", p.Val + "\x00", p.Val + p.Val, "\x00" + p.Val, p.Val[1:], p.Val[:len(p.Val)-1], key(0), key(7), key(1), known(1, 0, 1), known(2, 0, 1)} {
			if len(s) > api.MaxVal {
				continue
			}
			m := with(l, p.Key, s)
			if s == "drop" {
				m = slices.Delete(slices.Clone(l), i, i+1)
			}
			isFile := p.Key == key(5) && s == known(1, 0, 1)
			if s == p.Val || p.Key == key(0) && s == key(7) || isFile || isChunk && s != "" && s != p.Val+"\x00" {
				b.endures(t, m)
				continue
			}
			b.refuses(t, fmt.Sprintf("%q: %q", p.Key, s), m)
		}
	}
	for _, p := range l {
		b.refuses(t, "a longer key", with(l, p.Key+"\x7f", p.Val))
		b.refuses(t, "a shorter key", with(l, p.Key[:len(p.Key)-1], p.Val))
	}
}

// endures wants what may be another world's to be refused as none, or to answer as one.
func (b bed) endures(t *testing.T, l []api.Pair) {
	t.Helper()
	w, e := world.New(b.treeOf(t, l))
	if e == api.ErrForm && w == nil {
		return
	}
	want(t, "New", e, api.OK)
	for _, path := range []string{"/", "/a"} {
		_, e := w.List(path)
		want(t, "List", e, api.OK)
	}
	for _, ino := range []int{3, 4} {
		_, e := w.Read(ino, 0, 4096)
		want(t, "Read", e, api.OK)
	}
	all(t, w.Unlink("/a/f"), w.Unlink("/a/h"), w.Rename("/g", "/a/f"), w.Unlink("/a/f"))
	if e := w.Rmdir("/a/e"); e == api.ErrFile {
		all(t, w.Unlink("/a/e"))
	}
	all(t, w.Rmdir("/a"))
}

// P14.1: pairs that say what no calls would lead to.
func TestStrayPairs(t *testing.T) {
	b, l := laid(t)
	six := with(l, key(6), known(1, 0, 1))
	for what, m := range map[string][]api.Pair{
		"a number beyond the greatest":  with(with(l, key(7), known(1, 0, 1)), key(1)+"x", key(7)),
		"a greatest below another":      with(l, key(0), key(4)),
		"a greatest of nought":          with(l, key(0), key(0)),
		"a greatest below nought":       with(l, key(0), key(-1)),
		"a file without a name":         six,
		"a directory without a name":    with(l, key(6), known(2, 0, 1)),
		"a name that leads nowhere":     with(l, key(1)+"x", key(6)),
		"a name of nought":              with(l, key(1)+"x", key(0)),
		"a name of the root":            with(l, key(1)+"x", key(1)),
		"a name below nought":           with(l, key(1)+"x", key(-2)),
		"a directory's second name":     with(l, key(1)+"x", key(5)),
		"a directory in itself":         with(l, key(5)+"x", key(5)),
		"a directory in one below":      with(l, key(5)+"x", key(2)),
		"a name more than links":        with(l, key(1)+"x", key(4)),
		"links more than names":         with(l, key(4), known(1, 300, 3)),
		"links less than names":         with(l, key(4), known(1, 300, 1)),
		"a root that is a file":         with(l, key(1), known(1, 0, 1)),
		"a directory of two links":      with(l, key(5), known(2, 0, 2)),
		"a directory of no links":       with(l, key(5), known(2, 0, 0)),
		"a directory with bytes":        with(l, key(5), known(2, 1, 1)),
		"a directory that is a file":    with(l, key(2), known(1, 0, 1)),
		"a file that is a directory":    with(l, key(3), known(2, 0, 1)),
		"a third kind":                  with(l, key(5), known(3, 0, 1)),
		"no kind":                       with(l, key(5), known(0, 0, 1)),
		"a file that is too big":        with(l, key(3), known(1, 4097, 1)),
		"a chunk beyond the size":       with(l, key(3), known(1, 799, 1)),
		"a chunk behind the end":        with(l, key(4)+"\x02", "x"),
		"a chunk beyond the last":       with(with(l, key(3), known(1, 4096, 1)), key(3)+"\x10", "x"),
		"a chunk that ends in noughts":  with(l, key(4)+"\x00", "abc\x00"),
		"a chunk of nothing":            with(l, key(4)+"\x01", ""),
		"a chunk that is too long":      with(with(l, key(3), known(1, 4096, 1)), key(3)+"\x08", long(257)),
		"a chunk of a directory":        with(l, key(5)+"\x00", "x"),
		"a chunk of two bytes' number":  with(l, key(4)+"\x00\x00", "x"),
		"a name in a file":              with(six, key(4)+"x", key(6)),
		"a name that is none":           with(six, key(5)+".", key(6)),
		"a name with a slash":           with(six, key(5)+"a/b", key(6)),
		"a name of nothing known":       with(l, key(6)+"x", key(3)),
		"a key below all":               with(l, "\x00", "x"),
		"a key above all":               with(l, "\xff", "x"),
		"a key of a number below":       with(l, key(-1), known(1, 0, 1)),
		"a name and a byte more":        with(six, key(1)+"x", key(6)+"\x00"),
		"a name and a byte less":        with(six, key(1)+"x", key(6)[1:]),
		"what is known and a byte more": with(with(six, key(1)+"x", key(6)), key(6), known(1, 0, 1)+"\x00"),
		"a name of the greatest":        with(l, key(0)+"x", key(3)),
		"two directories of each other": with(with(with(with(with(l, key(0), key(8)), key(7), known(2, 0, 1)), key(8), known(2, 0, 1)), key(7)+"x", key(8)), key(8)+"x", key(7)),
		"nine links":                    nineLinks(l),
		"a path of nine names":          chain(9),
	} {
		b.refuses(t, what, m)
	}
	for what, m := range map[string][]api.Pair{
		"a greater greatest":             with(l, key(0), key(1<<62)),
		"a file more":                    with(six, key(1)+"x", key(6)),
		"a path of eight names":          chain(8),
		"a full file":                    with(with(l, key(3), known(1, 4096, 1)), key(3)+"\x0f", long(256)),
		"a chunk that begins in noughts": with(l, key(4)+"\x00", "\x00abc"),
	} {
		if w, e := world.New(b.treeOf(t, m)); w == nil || e != api.OK {
			t.Error(what, w, e)
		}
	}
}

// nineLinks is pairs with a file of nine names.
func nineLinks(l []api.Pair) []api.Pair {
	l = with(l, key(6), known(1, 0, 9))
	for i := range 9 {
		l = with(l, key(1)+fmt.Sprint(i), key(6))
	}
	return l
}

// chain is pairs of directories in each other, so many below the root.
func chain(n int) []api.Pair {
	l := []api.Pair{{Key: key(0), Val: key(n + 1)}}
	for i := 1; i <= n+1; i++ {
		l = append(l, api.Pair{Key: key(i), Val: known(2, 0, 1)})
		if i <= n {
			l = append(l, api.Pair{Key: key(i) + "d", Val: key(i + 1)})
		}
	}
	return l
}

// P1: all calls end, with nothing beside an error, whatever the tree holds that was put beside the world.
func TestStrangeTree(t *testing.T) {
	for _, p := range []api.Pair{
		{Key: key(5) + "x", Val: key(5)}, {Key: key(5) + "x", Val: key(2)}, {Key: key(5) + "x", Val: key(1)}, {Key: key(5) + "x", Val: "?"},
		{Key: key(5) + "x", Val: key(9)}, {Key: key(5) + "x", Val: key(0)}, {Key: key(5) + "\x01\x02", Val: ""}, {Key: key(0), Val: ""}, {Key: key(0), Val: key(1<<63 - 1)},
		{Key: key(1), Val: ""}, {Key: key(2), Val: "????"}, {Key: key(3), Val: known(1, 1, 1)}, {Key: key(3) + "xyz", Val: long(300)}, {Key: key(3) + "\xfe", Val: ""},
		{Key: key(4), Val: known(1, 4097, 2)}, {Key: key(5), Val: known(1, 0, 200)}, {Key: key(1) + "g", Val: key(1)}, {Key: "x", Val: "y"},
	} {
		b, _ := laid(t)
		all(t, b.x.Put(p.Key, p.Val))
		for _, path := range []string{"/", "/a", "/a/e", "/a/e/x", "/a/e/x/x/x/x", "/a/f", "/a/h", "/g", "/z", "/a/e/x/z"} {
			if x, e := b.Look(path); e != api.OK && x != (world.Info{}) {
				t.Error(x, e)
			}
			if l, e := b.List(path); e != api.OK && len(l) > 0 {
				t.Error(l, e)
			}
			for kind, s := range []string{"", "", "/n"} {
				if n, e := b.Make(path+s, kind); e != api.OK && n != 0 {
					t.Error(n, e)
				}
			}
			b.Link(path, "/l")
			for _, to := range []string{"/z", "/a/e/x/x", "/a/e/q", deep("x", 8)} {
				b.Rename(path, to)
				b.Rename(to, path)
			}
			b.Unlink(path)
			b.Rmdir(path)
		}
		for ino := range 10 {
			if x, e := b.Info(ino); e != api.OK && x != (world.Info{}) {
				t.Error(x, e)
			}
			if s, e := b.Read(ino, 0, 4096); e != api.OK && s != "" {
				t.Error(s, e)
			}
			b.Write(ino, 100, long(1000))
			b.Truncate(ino, 4096)
			b.Truncate(ino, 10)
		}
	}
}

// P14.1: of the greatest number that there is no number is left; nothing is changed.
func TestLastNumber(t *testing.T) {
	b := lay(t)
	all(t, b.x.Put(key(0), key(1<<63-2)))
	b = b.on(t, b.x)
	if n, e := b.Make("/a", 2); n != 1<<63-1 || e != api.OK {
		t.Fatal(n, e)
	}
	b.noMake(t, "/b", 1, api.ErrBig)
	b.noMake(t, "/a/b", 2, api.ErrBig)
	b.noMake(t, "/a", 1, api.ErrThere)
	b.looks(t, "/a", world.Info{Ino: 1<<63 - 1, Kind: 2, Links: 1})
	b.lists(t, "/a")
	b.lists(t, "/", "a")
}
