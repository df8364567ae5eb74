package tree_test

import (
	"fmt"
	"maps"
	"math"
	"math/rand"
	"slices"
	"strings"
	"testing"

	"hoard/api"
	"hoard/array"
	"hoard/pack"
	"hoard/rack"
	"hoard/space"
	"hoard/store"
	"hoard/tree"
)

// bed is a store with its array and its rack.
type bed struct {
	*store.Store
	a *array.Array
	r *rack.Rack
}

// lay makes a store on new drives.
func lay(t *testing.T, drives, sectors int) bed {
	t.Helper()
	r, e := rack.New(drives, sectors)
	want(t, "rack.New", e, api.OK)
	a, e := array.New(r, 1)
	want(t, "array.New", e, api.OK)
	s, e := store.New(a, nil, 1)
	want(t, "store.New", e, api.OK)
	return bed{s, a, r}
}

// anew is another store on the same array, that remembers nothing.
func (b bed) anew(t *testing.T) bed {
	t.Helper()
	s, e := store.New(b.a, b.Used(), b.Txg())
	want(t, "store.New", e, api.OK)
	return bed{s, b.a, b.r}
}

// open opens a root.
func (b bed) open(t *testing.T, root api.Ptr) *tree.Tree {
	t.Helper()
	x, e := tree.Open(b.Store, root)
	if x == nil || e != api.OK {
		t.Fatalf("Open(%s): %v, %d", tell(root), x, e)
	}
	return x
}

// want holds an error against the one that must be.
func want(t *testing.T, what string, got, must api.Errno) {
	t.Helper()
	if got != must {
		t.Fatalf("%s: error %d, not %d", what, got, must)
	}
}

// tell is a pointer with its sum in digits.
func tell(p api.Ptr) string {
	return fmt.Sprintf("{%d %d %d %x}", p.Addr, p.Size, p.Birth, p.Sum)
}

// tellAll are pointers with their sums in digits.
func tellAll(l []api.Ptr) string {
	var s []string
	for _, p := range l {
		s = append(s, tell(p))
	}
	return strings.Join(s, " ")
}

// puts puts pairs, each a key and a value.
func puts(t *testing.T, x *tree.Tree, pairs ...string) {
	t.Helper()
	for i := 0; i < len(pairs); i += 2 {
		want(t, "Put", x.Put(pairs[i], pairs[i+1]), api.OK)
	}
}

// drops drops keys.
func drops(t *testing.T, x *tree.Tree, keys ...string) {
	t.Helper()
	for _, k := range keys {
		want(t, "Drop", x.Drop(k), api.OK)
	}
}

// syncs is what Sync answers, if it is done.
func syncs(t *testing.T, x *tree.Tree) (api.Ptr, []api.Ptr) {
	t.Helper()
	p, gone, e := x.Sync()
	want(t, "Sync", e, api.OK)
	if x.Dirty() {
		t.Error("dirty behind a Sync")
	}
	return p, gone
}

// pairsOf are a map's pairs, in the order of their keys.
func pairsOf(m map[string]string) []api.Pair {
	var l []api.Pair
	for _, k := range slices.Sorted(maps.Keys(m)) {
		l = append(l, api.Pair{Key: k, Val: m[k]})
	}
	return l
}

// tells holds a tree to just the pairs of a map.
func tells(t *testing.T, what string, x *tree.Tree, m map[string]string) {
	t.Helper()
	l, e := x.Range("", "", math.MaxInt)
	if e != api.OK || !slices.Equal(l, pairsOf(m)) {
		t.Fatalf("%s: %d pairs, %d, not the %d that must be", what, len(l), e, len(m))
	}
}

// ranges holds a Range to what the map has.
func ranges(t *testing.T, x *tree.Tree, m map[string]string, from, to string, most int) {
	t.Helper()
	var must []api.Pair
	for _, p := range pairsOf(m) {
		if p.Key >= from && (to == "" || p.Key < to) && len(must) < most {
			must = append(must, p)
		}
	}
	if l, e := x.Range(from, to, most); e != api.OK || !slices.Equal(l, must) {
		t.Fatalf("Range(%q, %q, %d): %v, %d, not %v", from, to, most, l, e, must)
	}
}

// gets holds a Get to what the map has.
func gets(t *testing.T, x *tree.Tree, m map[string]string, key string) {
	t.Helper()
	v, e := x.Get(key)
	if must, ok := m[key]; ok && (e != api.OK || v != must) || !ok && (e != api.ErrMiss || v != "") {
		t.Fatalf("Get(%q): %q, %d, not %q, %v", key, v, e, must, ok)
	}
}

// blocks are the blocks of a root, by their addresses.
func (b bed) blocks(t *testing.T, root api.Ptr) []api.Ptr {
	t.Helper()
	l, e := tree.Blocks(b.Store, root)
	want(t, "Blocks", e, api.OK)
	slices.SortFunc(l, byAddr)
	if len(slices.Compact(slices.Clone(l))) != len(l) {
		t.Fatal("a block is told twice:", tellAll(l))
	}
	return l
}

// byAddr is the order of addresses.
func byAddr(p, q api.Ptr) int { return p.Addr - q.Addr }

// without are the pointers that aren't among others.
func without(l, others []api.Ptr) []api.Ptr {
	return slices.DeleteFunc(slices.Clone(l), func(p api.Ptr) bool { return slices.Contains(others, p) })
}

// gives gives blocks back, and settles.
func (b bed) gives(t *testing.T, l []api.Ptr) {
	t.Helper()
	for _, p := range l {
		want(t, "Give", b.Give(p), api.OK)
	}
	b.Settle()
}

// cellsOf are the ranges of the cells of blocks.
func (b bed) cellsOf(l []api.Ptr) []space.Range {
	cells := make([]int, b.a.Cells()+1)
	for _, p := range l {
		n, _ := b.a.Cost(p.Size)
		for i := range n {
			cells[p.Addr+i]++
		}
	}
	var r []space.Range
	for i := 0; i < b.a.Cells(); i++ {
		if cells[i] == 0 {
			continue
		}
		from := i
		for cells[i] > 0 {
			i++
		}
		r = append(r, space.Range{From: from, To: i})
	}
	return r
}

// block is what the blocks of the program hold: a level, and of each item the key, and the value or the pointer.
type block struct {
	level      int
	keys, vals []string
}

// reads is a block as it stands in the store.
func (b bed) reads(t *testing.T, p api.Ptr) block {
	t.Helper()
	x, e := b.Get(p)
	want(t, "store.Get", e, api.OK)
	l, e := pack.Decode(x)
	want(t, "Decode", e, api.OK)
	r := block{level: l[0].N}
	for i := 1; i < len(l); i += 2 {
		r.keys = append(r.keys, l[i].S)
		r.vals = append(r.vals, l[i+1].S)
	}
	return r
}

// shape holds the tree of a root to what is said of its blocks, and tells how many stand above a pair.
func (b bed) shape(t *testing.T, root api.Ptr) int {
	t.Helper()
	if root == (api.Ptr{}) {
		return 0
	}
	l, e := b.open(t, root).Range("", "", math.MaxInt)
	want(t, "Range", e, api.OK)
	if n := len(b.blocks(t, root)); n > 2*len(l) {
		t.Fatalf("%d blocks for %d pairs", n, len(l))
	}
	deep := b.deep(t, root)
	if deep > 10 {
		t.Fatalf("%d blocks above a pair", deep)
	}
	return deep
}

// deep is how many blocks stand above a pair; none tells of one that is younger than it.
func (b bed) deep(t *testing.T, p api.Ptr) int {
	t.Helper()
	x := b.reads(t, p)
	deep := 1
	for _, v := range x.vals {
		if x.level == 1 {
			break
		}
		q, e := pack.Unptr(v)
		want(t, "Unptr", e, api.OK)
		if q.Birth > p.Birth {
			t.Fatalf("%s tells of %s", tell(p), tell(q))
		}
		deep = max(deep, 1+b.deep(t, q))
	}
	return deep
}

// any is one of a list.
func anyOf[T any](rnd *rand.Rand, l []T) T { return l[rnd.Intn(len(l))] }

// bytesOf is a text of n random bytes.
func bytesOf(rnd *rand.Rand, n int) string {
	b := make([]byte, n)
	rnd.Read(b)
	return string(b)
}

// long is a text of n bytes.
func long(n int) string { return strings.Repeat("x", n) }

// num is a key of four digits.
func num(i int) string { return fmt.Sprintf("%04d", i) }

// onlyThese holds the cells that are used to those that were, and those of blocks born since, which weren't.
func (b bed) onlyThese(t *testing.T, was []space.Range, born []api.Ptr) {
	t.Helper()
	cells := make([]int, b.a.Cells())
	for _, l := range [][]space.Range{was, b.cellsOf(born)} {
		for _, r := range l {
			for c := r.From; c < r.To; c++ {
				cells[c]++
			}
		}
	}
	for _, r := range b.Used() {
		for c := r.From; c < r.To; c++ {
			cells[c] += 10
		}
	}
	for c, n := range cells {
		if n != 0 && n != 11 {
			t.Fatalf("cell %d: %d", c, n)
		}
	}
	for _, p := range born {
		if p.Birth != b.Txg() {
			t.Fatalf("%s was born in %d", tell(p), b.Txg())
		}
	}
}
