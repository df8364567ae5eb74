package tree_test

import (
	"math/rand"
	"strings"
	"testing"

	"hoard/api"
	"hoard/pack"
	"hoard/store"
	"hoard/tree"
)

func number(n int) api.Item  { return api.Item{Kind: 1, N: n} }
func text(s string) api.Item { return api.Item{Kind: 2, S: s} }

// lays puts a block of a level with keys and what stands behind them.
func (b bed) lays(t *testing.T, level int, is ...string) api.Ptr {
	t.Helper()
	l := []api.Item{number(level)}
	for _, s := range is {
		l = append(l, text(s))
	}
	return b.laysItems(t, l...)
}

// laysItems puts a block of items.
func (b bed) laysItems(t *testing.T, l ...api.Item) api.Ptr {
	t.Helper()
	x, e := pack.Encode(l)
	want(t, "Encode", e, api.OK)
	p, e := b.Put(x)
	want(t, "Put", e, api.OK)
	return p
}

// way is a pointer as a text.
func way(t *testing.T, p api.Ptr) string {
	t.Helper()
	s, e := pack.Ptr(p)
	want(t, "Ptr", e, api.OK)
	return s
}

// isForm: is it ErrForm?
func isForm(e api.Errno) bool { return e == api.ErrForm }

// P10.1: a block that is no tree's: ErrForm by all, and nothing is changed.
func TestNoTree(t *testing.T) {
	b := lay(t, 16, 400)
	leaf := b.lays(t, 1, "a", long(300), "b", long(300))
	for _, s := range []string{"", "a", "abc", long(1024), strings.Repeat("\x00", 128), "\x01", "\x02\x01a"} {
		if p, e := b.Put([]byte(s)); e == api.OK {
			refused(t, b.Store, p, isForm)
		}
	}
	for _, l := range [][]api.Item{
		{number(1)}, {number(1), text("a")}, {number(1), text("a"), text("b"), text("c")},
		{text("a"), text("b"), text("c")}, {number(1), number(1), text("b")}, {number(1), text("a"), number(2)},
		{number(2), text("a"), number(2), text("b"), number(2)}, {text("a")}, {number(1), text("a"), text("1"), number(2), text("2")},
	} {
		refused(t, b.Store, b.laysItems(t, l...), isForm)
	}
	for _, level := range []int{0, -1, 11, 12, 1 << 40, -1 << 40} {
		refused(t, b.Store, b.lays(t, level, "a", "b"), isForm)
		refused(t, b.Store, b.lays(t, level, "a", way(t, leaf), "c", way(t, leaf)), isForm)
	}
	for _, l := range [][]string{
		{"", "x"}, {long(25), "x"}, {"a", long(301)}, {"a", "x", "a", "y"}, {"b", "x", "a", "y"}, {"a", "x", "", "y"},
		{"a", "x", "c", "y", "b", "z"}, {"a", "x", long(25), ""},
	} {
		refused(t, b.Store, b.lays(t, 1, l...), isForm)
	}
}

// P10.1: a block that tells of others wrongly is no tree's; what is asked of the others only may be told.
func TestNoWay(t *testing.T) {
	b := lay(t, 16, 400)
	a := way(t, b.lays(t, 1, "a", long(300), "b", long(300)))
	c := way(t, b.lays(t, 1, "c", long(300), "d", long(300)))
	light := way(t, b.lays(t, 1, "a", "1"))
	above := way(t, b.lays(t, 2, "a", a, "c", c))
	for _, l := range [][]string{
		{"a", a}, {"a", "x", "c", "y"}, {"a", "", "c", ""}, {"a", a[1:], "c", c[1:]}, {"a", a + "\x01\x00", "c", c},
		{"c", c, "a", a}, {"a", a, "a", a}, {"", a, "c", c}, {long(25), a, "z", c},
	} {
		refused(t, b.Store, b.lays(t, 2, l...), isForm)
	}
	for _, l := range [][]string{
		{"A", a, "c", c},     // another least key
		{"Z", c, "c", a},     // in the place of each other
		{"a", a, "b", c},     // a key that is below the other one's least key, but in the first
		{"a", light, "c", c}, // too little
		{"a", above, "c", c}, // of its own level
		{"a", a, "az", a},    // one block twice
	} {
		part(t, b.Store, b.lays(t, 2, l...))
	}
	part(t, b.Store, b.lays(t, 3, "a", a, "c", c))
	part(t, b.Store, b.lays(t, 10, "a", above, "c", c))
	good := b.open(t, b.lays(t, 2, "a", a, "c", c))
	tells(t, "a good one", good, map[string]string{"a": long(300), "b": long(300), "c": long(300), "d": long(300)})
}

// P10.1: a block with keys that those above it tell to be elsewhere is no tree's: none are told out of their order.
func TestTooFar(t *testing.T) {
	b := lay(t, 16, 400)
	pairs := func(keys string) string { return way(t, b.lays(t, 1, keys[:1], long(300), keys[1:], long(300))) }
	for _, far := range []string{"ae", "ac", "ab"} {
		x := b.open(t, b.lays(t, 2, "a", pairs(far), "c", pairs("cd")))
		if v, e := x.Get("a"); (far == "ab") != (e == api.OK) || e != api.OK && (e != api.ErrForm || v != "") {
			t.Errorf("of %s: %q, %d", far, v, e)
		}
		if l, e := x.Range("", "", 9); (far == "ab") != (e == api.OK) || e != api.OK && (e != api.ErrForm || l != nil) {
			t.Errorf("of %s: %v, %d", far, l, e)
		}
	}
	for _, far := range []string{"lz", "lm", "lk"} {
		low := []string{"a", pairs("ab"), "c", pairs("cd"), "e", pairs("ef"), "g", pairs("gh"), "i", pairs("ij"), "l", pairs(far)}
		high := []string{"m", pairs("mn"), "o", pairs("op"), "q", pairs("qr"), "s", pairs("st"), "u", pairs("uv"), "w", pairs("wx")}
		if far == "lk" {
			low[10], low[11] = "k", pairs("kl")
		}
		p := b.lays(t, 3, "a", way(t, b.lays(t, 2, low...)), "m", way(t, b.lays(t, 2, high...)))
		x := b.open(t, p)
		good := far == "lk"
		for _, at := range []string{"l", "x"} {
			if e := x.Copy().Put(at, "1"); (good || at == "x") != (e == api.OK) || e != api.OK && e != api.ErrForm {
				t.Errorf("of %s: Put(%s): %d", far, at, e)
			}
		}
		if l, e := x.Range("", "", 99); good != (e == api.OK && len(l) == 24) || !good && (e != api.ErrForm || l != nil) {
			t.Errorf("of %s: %v, %d", far, l, e)
		}
		if v, e := x.Get("l"); good != (e == api.OK && v == long(300)) || !good && (e != api.ErrForm || v != "") {
			t.Errorf("of %s: Get: %q, %d", far, v, e)
		}
		if l, e := x.Range("b", "c", 99); e != api.OK || len(l) != 1 {
			t.Errorf("of %s: %v, %d", far, l, e)
		}
	}
}

// part holds a tree, some of whose blocks are none of it, to ErrForm where all are read, and to no change.
func part(t *testing.T, s *store.Store, p api.Ptr) {
	t.Helper()
	x, e := tree.Open(s, p)
	want(t, "Open", e, api.OK)
	if l, e := x.Range("", "", 100); l != nil || e != api.ErrForm {
		t.Errorf("Range: %v, %d", l, e)
	}
	if l, e := tree.Changes(s, p, api.Ptr{}); l != nil || e != api.ErrForm {
		t.Errorf("Changes: %v, %d", l, e)
	}
	fails := 0
	for _, k := range []string{"a", "b", "c", "d", "az", "Z"} {
		y := x.Copy()
		v, e := y.Get(k)
		if e != api.ErrForm {
			continue
		}
		fails++
		if put, drop := y.Put(k, "x"), y.Drop(k); v != "" || put != e || drop != e || y.Dirty() {
			t.Errorf("%q: %q, %d, %d, %v", k, v, put, drop, y.Dirty())
		}
	}
	if fails == 0 {
		t.Error("nothing failed")
	}
}

// P1: whatever a tree's blocks hold, each call ends, and pairs are told in their order.
func TestTurned(t *testing.T) {
	rnd := rand.New(rand.NewSource(9))
	b := lay(t, 16, 2000)
	x := b.open(t, api.Ptr{})
	for i := range 300 {
		puts(t, x, num(i), long(i%150))
	}
	p, _ := syncs(t, x)
	blocks := b.blocks(t, p)
	for range 3000 {
		c := b.anew(t) // it lays its blocks in the place of the last one's
		y, e := c.Get(anyOf(rnd, blocks))
		want(t, "Get", e, api.OK)
		for range 1 + rnd.Intn(3) {
			y[rnd.Intn(len(y))] = byte(rnd.Intn(256))
		}
		if rnd.Intn(4) == 0 {
			y = y[:1+rnd.Intn(len(y))]
		}
		q, e := c.Put(y)
		want(t, "Put", e, api.OK)
		c.all(t, q, p)
	}
}

// all calls all, of a root and another one.
func (b bed) all(t *testing.T, q, p api.Ptr) {
	t.Helper()
	x := b.open(t, q)
	x.Get(num(7))
	rises(t, x)
	tree.Changes(b.Store, q, p)
	tree.Changes(b.Store, p, q)
	tree.Blocks(b.Store, q)
	done := x.Put(num(150), long(300)) == api.OK
	done = x.Drop(num(7)) == api.OK || done
	if x.Dirty() != done {
		t.Error("dirty", x.Dirty())
	}
	r, _ := syncs(t, x)
	rises(t, b.open(t, r))
}

// rises holds what a tree tells to pairs in their order.
func rises(t *testing.T, x *tree.Tree) {
	t.Helper()
	l, _ := x.Range("", "", 1000)
	for i, p := range l {
		if p.Key == "" || len(p.Key) > 24 || len(p.Val) > 300 || i > 0 && p.Key <= l[i-1].Key {
			t.Errorf("%q: %q", p.Key, p.Val)
		}
	}
}
