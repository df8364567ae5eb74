package dataset_test

import (
	"fmt"
	"maps"
	"math"
	"math/rand"
	"slices"
	"strings"
	"testing"

	"hoard/api"
	"hoard/array"
	"hoard/dataset"
	"hoard/rack"
	"hoard/space"
	"hoard/store"
	"hoard/tree"
)

// bed is a store with its array and its rack.
type bed struct {
	*store.Store
	a *array.Array
	r *rack.Rack
}

// lay makes a store on new drives.
func lay(t *testing.T, drives, sectors int) bed {
	t.Helper()
	r, e := rack.New(drives, sectors)
	want(t, "rack.New", e, api.OK)
	a, e := array.New(r, 1)
	want(t, "array.New", e, api.OK)
	return bed{nil, a, r}.with(t, nil, 1)
}

// with is another store on the same array, that remembers nothing.
func (b bed) with(t *testing.T, used []space.Range, txg int) bed {
	t.Helper()
	s, e := store.New(b.a, used, txg)
	want(t, "store.New", e, api.OK)
	return bed{s, b.a, b.r}
}

// anew is one with what a root needs, in a later transaction.
func (b bed) anew(t *testing.T, root api.Ptr, txg int) bed {
	t.Helper()
	b = b.with(t, nil, txg)
	return b.with(t, b.cellsOf(t, b.reach(t, root)), txg)
}

// want holds an error against the one that must be.
func want(t *testing.T, what string, got, must api.Errno) {
	t.Helper()
	if got != must {
		t.Fatalf("%s: error %d, not %d", what, got, must)
	}
}

// tell is a pointer with its sum in digits.
func tell(p api.Ptr) string {
	return fmt.Sprintf("{%d %d %d %x}", p.Addr, p.Size, p.Birth, p.Sum)
}

// open opens a root.
func (b bed) open(t *testing.T, root api.Ptr) *dataset.Sets {
	t.Helper()
	d, e := dataset.Open(b.Store, root)
	if d == nil || e != api.OK {
		t.Fatalf("Open(%s): %v, %d", tell(root), d, e)
	}
	return d
}

// syncs is the root that Sync answers, if it is done.
func syncs(t *testing.T, d *dataset.Sets) api.Ptr {
	t.Helper()
	root, e := d.Sync()
	want(t, "Sync", e, api.OK)
	return root
}

// reach is what Reach answers, if it is done.
func (b bed) reach(t *testing.T, root api.Ptr) []api.Ptr {
	t.Helper()
	l, e := dataset.Reach(b.Store, root)
	want(t, "Reach", e, api.OK)
	return l
}

// cellsOf are the ranges of the cells of blocks, of which no two have one in common.
func (b bed) cellsOf(t *testing.T, l []api.Ptr) []space.Range {
	t.Helper()
	var r []space.Range
	for _, p := range slices.SortedFunc(slices.Values(l), func(p, q api.Ptr) int { return p.Addr - q.Addr }) {
		n, e := b.a.Cost(p.Size)
		want(t, "Cost", e, api.OK)
		switch last := len(r) - 1; {
		case last >= 0 && r[last].To > p.Addr:
			t.Fatalf("two blocks have cell %d", p.Addr)
		case last >= 0 && r[last].To == p.Addr:
			r[last].To += n
		default:
			r = append(r, space.Range{From: p.Addr, To: p.Addr + n})
		}
	}
	return r
}

// justThese holds the cells that aren't given back to those that a root needs.
func (b bed) justThese(t *testing.T, root api.Ptr) {
	t.Helper()
	if must := b.cellsOf(t, b.reach(t, root)); !slices.Equal(b.Used(), must) {
		t.Fatalf("used are %v, needed %v", b.Used(), must)
	}
}

// treeOf is a dataset's tree, or one of a snapshot.
func treeOf(t *testing.T, d *dataset.Sets, name string) *tree.Tree {
	t.Helper()
	x, e := d.Tree(name)
	if x == nil || e != api.OK {
		t.Fatalf("Tree(%q): %v, %d", name, x, e)
	}
	return x
}

// puts puts pairs to a dataset, each a key and a value.
func puts(t *testing.T, d *dataset.Sets, name string, pairs ...string) {
	t.Helper()
	x := treeOf(t, d, name)
	for i := 0; i < len(pairs); i += 2 {
		want(t, "Put", x.Put(pairs[i], pairs[i+1]), api.OK)
	}
}

// fills puts so many pairs to a dataset, all with a value, and tells them.
func fills(t *testing.T, d *dataset.Sets, name string, n int, val string) map[string]string {
	t.Helper()
	m := map[string]string{}
	for i := range n {
		puts(t, d, name, num(i), val)
		m[num(i)] = val
	}
	return m
}

// lists holds List to names.
func lists(t *testing.T, d *dataset.Sets, names ...string) {
	t.Helper()
	if l, e := d.List(); e != api.OK || !slices.Equal(l, names) {
		t.Fatalf("List: %v, %d, not %v", l, e, names)
	}
}

// pairsOf are a map's pairs, in the order of their keys.
func pairsOf(m map[string]string) []api.Pair {
	var l []api.Pair
	for _, k := range slices.Sorted(maps.Keys(m)) {
		l = append(l, api.Pair{Key: k, Val: m[k]})
	}
	return l
}

// tells holds a dataset or a snapshot to just the pairs of a map.
func tells(t *testing.T, d *dataset.Sets, name string, m map[string]string) {
	t.Helper()
	holds(t, name, treeOf(t, d, name), m)
}

// holds holds a tree to just the pairs of a map.
func holds(t *testing.T, name string, x *tree.Tree, m map[string]string) {
	t.Helper()
	l, e := x.Range("", "", math.MaxInt)
	if e != api.OK || !slices.Equal(l, pairsOf(m)) {
		t.Fatalf("%s: %d pairs, %d, not the %d that must be", name, len(l), e, len(m))
	}
}

// all wants each of some calls to be done.
func all(t *testing.T, errors ...api.Errno) {
	t.Helper()
	for i, e := range errors {
		if e != api.OK {
			t.Fatalf("call %d: error %d", i, e)
		}
	}
}

// long is a text of n bytes.
func long(n int) string { return strings.Repeat("x", n) }

// num is a key of four digits.
func num(i int) string { return fmt.Sprintf("%04d", i) }

// anyOf is one of a list.
func anyOf[T any](rnd *rand.Rand, l []T) T { return l[rnd.Intn(len(l))] }
