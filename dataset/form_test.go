package dataset_test

import (
	"math"
	"math/rand"
	"slices"
	"strings"
	"testing"

	"hoard/api"
	"hoard/dataset"
	"hoard/pack"
	"hoard/tree"
)

// plant is the root of a tree of pairs.
func (b bed) plant(t *testing.T, pairs []api.Pair) api.Ptr {
	t.Helper()
	x, e := tree.Open(b.Store, api.Ptr{})
	want(t, "tree.Open", e, api.OK)
	for _, p := range pairs {
		want(t, "Put", x.Put(p.Key, p.Val), api.OK)
	}
	root, _, e := x.Sync()
	want(t, "tree.Sync", e, api.OK)
	return root
}

// refuses holds Open and Reach to an error.
func (b bed) refuses(t *testing.T, what string, root api.Ptr, must api.Errno) {
	t.Helper()
	used := b.Used()
	if d, e := dataset.Open(b.Store, root); d != nil || e != must {
		t.Errorf("Open of %s: %v, %d", what, d, e)
	}
	if l, e := dataset.Reach(b.Store, root); len(l) > 0 || e != must {
		t.Errorf("Reach of %s: %d blocks, %d", what, len(l), e)
	}
	if !slices.Equal(b.Used(), used) {
		t.Errorf("Open of %s changed what is used", what)
	}
}

// P12.1: roots of other trees, of no tree, and of nothing.
func TestNoSets(t *testing.T) {
	b := lay(t, 5, 400)
	for _, p := range []api.Pair{{Key: "k", Val: "1"}, {Key: "a"}, {Key: "a", Val: "\x02\x00"}, {Key: "A", Val: "1"}, {Key: "a@x", Val: ""}, {Key: "\x00", Val: "1"}, {Key: long(24), Val: long(300)}} {
		b.refuses(t, p.Key, b.plant(t, []api.Pair{p}), api.ErrForm)
	}
	d := laid(t, b)
	fills(t, d, "a", 50, "v")
	all(t, d.Snapshot("a@z"))
	root := syncs(t, d)
	for _, s := range []string{"a@x", "a@y", "a@z"} {
		p, _, e := d.Root(s)
		want(t, "Root", e, api.OK)
		b.refuses(t, s, p, api.ErrForm)
	}
	block, e := b.Put([]byte("no tree's"))
	want(t, "Put", e, api.OK)
	b.refuses(t, "a block", block, api.ErrForm)
	turned := []byte(root.Sum)
	turned[7]++
	b.refuses(t, "another sum", api.Ptr{Addr: root.Addr, Size: root.Size, Birth: 1, Sum: string(turned)}, api.ErrIO)
	b.refuses(t, "no sum", api.Ptr{Addr: root.Addr, Size: root.Size, Birth: 1}, api.ErrArg)
	b.refuses(t, "no size", api.Ptr{Addr: root.Addr, Sum: root.Sum}, api.ErrArg)
	for _, n := range []int{math.MinInt, -1, b.a.Cells(), math.MaxInt} {
		b.refuses(t, "an address", api.Ptr{Addr: n, Size: root.Size, Birth: 1, Sum: root.Sum}, api.ErrArg)
		b.refuses(t, "a size", api.Ptr{Addr: root.Addr, Size: max(n, 1025), Birth: 1, Sum: root.Sum}, api.ErrArg)
	}
	lists(t, b.open(t, root), "a", "a@x", "a@y", "a@z", "b", "c")
}

// stands are the pairs that stand in the tree of a root.
func (b bed) stands(t *testing.T, root api.Ptr) []api.Pair {
	t.Helper()
	x, e := tree.Open(b.Store, root)
	want(t, "tree.Open", e, api.OK)
	l, e := x.Range("", "", math.MaxInt)
	want(t, "Range", e, api.OK)
	return l
}

// kept is datasets with lists of blocks, and the pairs that stand there for them.
func kept(t *testing.T, b bed) []api.Pair {
	t.Helper()
	d := laid(t, b)
	for _, v := range []string{"2", "3"} {
		fills(t, d, "a", 400, long(80)+v)
		all(t, d.Snapshot("a@z"+v))
	}
	fills(t, d, "a", 400, "")
	return b.stands(t, syncs(t, d))
}

// spells is a value of items.
func spells(t *testing.T, l ...api.Item) string {
	t.Helper()
	b, e := pack.Encode(l)
	want(t, "Encode", e, api.OK)
	return string(b)
}

// with is pairs with others, each in the place of that of its key.
func with(l []api.Pair, others ...api.Pair) []api.Pair {
	l = slices.Clone(l)
	for _, p := range others {
		l = slices.DeleteFunc(l, func(q api.Pair) bool { return q.Key == p.Key })
	}
	return append(l, others...)
}

// valOf is the value of a key.
func valOf(t *testing.T, l []api.Pair, key string) string {
	t.Helper()
	i := slices.IndexFunc(l, func(p api.Pair) bool { return p.Key == key })
	if i < 0 {
		t.Fatalf("there is no %q", key)
	}
	return l[i].Val
}

func numberOf(n int) api.Item  { return api.Item{Kind: 1, N: n} }
func textOf(s string) api.Item { return api.Item{Kind: 2, S: s} }

// P12.1: a tree that is nearly that of datasets is none of theirs.
func TestNearly(t *testing.T) {
	b := lay(t, 16, 2000)
	good := kept(t, b)
	set := func(items ...api.Item) string { return spells(t, items...) }
	is := func(key, val string) api.Pair { return api.Pair{Key: key, Val: val} }
	no := set(textOf(""), numberOf(0), textOf(""))
	lists(t, b.open(t, b.plant(t, with(good, is("q", no)))), "a", "a@x", "a@y", "a@z2", "a@z3", "b", "c", "q")
	snap := func(txg int) string { return set(textOf(""), numberOf(txg), textOf("")) }
	lists(t, b.open(t, b.plant(t, with(good, is("c@q", snap(math.MaxInt-1))))), "a", "a@x", "a@y", "a@z2", "a@z3", "b", "c", "c@q")
	for _, p := range []api.Pair{
		is("Q", no), is("a@", no), is("@a", no), is("a@q", no), is("q", snap(3)), is("q@a", snap(3)), is("123456789", no),
		is("c@Q", snap(9)), is("c@", snap(9)), is("c@q@r", snap(9)), is("c@123456789", snap(9)), is("c", snap(9)), is("c@q", snap(0)), is("c@q", snap(-1)), is("c@q", snap(math.MinInt)), is("c@q", snap(math.MaxInt)), is("b@q", snap(1)), is("a@q", snap(2)),
		is("q", set(textOf(""), numberOf(0))), is("q", set(textOf(""), numberOf(0), textOf(""), textOf(""))), is("q", ""), is("q", "x"),
		is("q", set(numberOf(0), numberOf(0), textOf(""))), is("q", set(textOf(""), textOf(""), textOf(""))), is("q", set(textOf(""), numberOf(0), numberOf(0))),
		is("q", set(textOf("x"), numberOf(0), textOf(""))), is("q", set(textOf("\x02\x00"), numberOf(0), textOf(""))),
		is("q", set(textOf(""), numberOf(0), textOf("a@q"))), is("q", set(textOf(""), numberOf(0), textOf("a"))), is("q", set(textOf(""), numberOf(0), textOf("@"))),
		is("c@q", set(textOf(""), numberOf(9), textOf("a@x"))), is("q", set(textOf(""), numberOf(9), textOf("a@x"))),
	} {
		b.refuses(t, p.Key+" "+p.Val, b.plant(t, with(good, p)), api.ErrForm)
	}
	for _, gone := range []string{"a", "a@x"} {
		l := slices.DeleteFunc(slices.Clone(good), func(p api.Pair) bool { return p.Key == gone })
		b.refuses(t, "none without "+gone, b.plant(t, l), api.ErrForm)
	}
	ring := []api.Pair{is("a", set(textOf(""), numberOf(0), textOf("b@x"))), is("b", set(textOf(""), numberOf(0), textOf("a@x"))), is("a@x", snap(4)), is("b@x", snap(5))}
	b.refuses(t, "a ring of clones", b.plant(t, ring), api.ErrForm)
	many := slices.DeleteFunc(slices.Clone(good), func(p api.Pair) bool { return strings.Contains(p.Key, " ") })
	for i := len(many); i < api.MaxSets; i++ {
		many = append(many, is(num(i), no))
	}
	b.open(t, b.plant(t, many))
	b.refuses(t, "too many", b.plant(t, append(many, is("q", no))), api.ErrForm)
}

// P12.1: nor is one whose lists of blocks aren't in form.
func TestNearlyDead(t *testing.T) {
	b := lay(t, 16, 2000)
	good := kept(t, b)
	i := slices.IndexFunc(good, func(p api.Pair) bool { return strings.HasPrefix(p.Key, "a ") })
	key := good[i].Key
	items, e := pack.Decode([]byte(good[i].Val))
	want(t, "Decode", e, api.OK)
	next := good[i+1]
	l := slices.Delete(slices.Clone(good), i, i+1)
	b.refuses(t, "a list without its first part", b.plant(t, l), api.ErrForm)
	b.refuses(t, "a part at another place", b.plant(t, with(l, api.Pair{Key: key + "1", Val: good[i].Val})), api.ErrForm)
	b.refuses(t, "a part of none", b.plant(t, []api.Pair{good[i]}), api.ErrForm)
	b.refuses(t, "a part of another one", b.plant(t, with(good, api.Pair{Key: "0" + key[1:], Val: good[i].Val})), api.ErrForm)
	b.refuses(t, "a short part", b.plant(t, with(good, api.Pair{Key: key, Val: spells(t, items[3:]...)})), api.ErrForm)
	b.refuses(t, "half a block", b.plant(t, with(good, api.Pair{Key: key, Val: spells(t, items[1:]...)})), api.ErrForm)
	b.refuses(t, "an empty part", b.plant(t, with(good, api.Pair{Key: key})), api.ErrForm)
	b.refuses(t, "an empty part behind", b.plant(t, append(slices.Clone(good), api.Pair{Key: "b 00000"})), api.ErrForm)
	if !strings.HasPrefix(next.Key, "a ") {
		t.Fatal("there is one part only")
	}
	for at, bad := range map[int][]api.Item{
		0: {numberOf(-1), numberOf(math.MinInt), textOf("")},
		1: {numberOf(0), numberOf(-1), numberOf(1025), numberOf(math.MaxInt), numberOf(math.MinInt), textOf("x")},
		2: {numberOf(-1), numberOf(100), numberOf(math.MaxInt), numberOf(math.MinInt), textOf("")},
	} {
		for _, x := range bad {
			turned := slices.Clone(items)
			turned[at] = x
			b.refuses(t, "a block that is none", b.plant(t, with(good, api.Pair{Key: key, Val: spells(t, turned...)})), api.ErrForm)
		}
	}
	b.open(t, b.plant(t, with(good, api.Pair{Key: key, Val: good[i].Val})))
}

// P1, P12.1: whatever becomes of the pairs that stand there, all calls end, and none tells what isn't so of names.
func TestTurned(t *testing.T) {
	rnd := rand.New(rand.NewSource(1))
	b := lay(t, 9, 2000)
	good := b.stands(t, syncs(t, laid(t, b)))
	for range 1500 {
		l := slices.Clone(good)
		for range 1 + rnd.Intn(2) {
			i := rnd.Intn(len(l))
			turned := []byte(l[i].Val)
			turned[rnd.Intn(len(turned))] += byte(1 + rnd.Intn(255))
			l[i].Val = string(turned)
		}
		root := b.plant(t, l)
		d, e := dataset.Open(b.Store, root)
		if e != api.OK && (e != api.ErrForm || d != nil) {
			t.Fatal(d, e)
		}
		dataset.Reach(b.Store, root)
		if e == api.OK {
			ends(t, d)
		}
		want(t, "Give", b.Give(root), api.OK)
		b.Settle()
		b = b.with(t, b.Used(), b.Txg())
	}
}

// ends makes all calls of datasets that aren't right.
func ends(t *testing.T, d *dataset.Sets) {
	t.Helper()
	l, e := d.List()
	want(t, "List", e, api.OK)
	for _, s := range l {
		set, snap := dataset.Name(s)
		if set == snap {
			t.Fatalf("%q is listed", s)
		}
		x := treeOf(t, d, s)
		x.Get("k")
		x.Put("k", "v")
		d.Root(s)
	}
}
