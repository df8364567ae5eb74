package stream_test

import (
	"crypto/sha256"
	"fmt"
	"maps"
	"math"
	"math/rand"
	"slices"
	"strings"
	"testing"

	"hoard/api"
	"hoard/array"
	"hoard/pack"
	"hoard/rack"
	"hoard/store"
	"hoard/stream"
	"hoard/tree"
)

// bed is a store with its array and its rack.
type bed struct {
	*store.Store
	a *array.Array
	r *rack.Rack
}

// pairs are what a tree has.
type pairs map[string]string

// lay makes a store on new drives.
func lay(t *testing.T, drives, sectors int) bed {
	t.Helper()
	r, e := rack.New(drives, sectors)
	want(t, "rack.New", e, api.OK)
	a, e := array.New(r, 1)
	want(t, "array.New", e, api.OK)
	s, e := store.New(a, nil, 1)
	want(t, "store.New", e, api.OK)
	return bed{s, a, r}
}

// anew is another store on the same array, that remembers nothing.
func (b bed) anew(t *testing.T) bed {
	t.Helper()
	s, e := store.New(b.a, b.Used(), b.Txg())
	want(t, "store.New", e, api.OK)
	return bed{s, b.a, b.r}
}

// open opens a root.
func (b bed) open(t *testing.T, root api.Ptr) *tree.Tree {
	t.Helper()
	x, e := tree.Open(b.Store, root)
	want(t, "tree.Open", e, api.OK)
	return x
}

// tree is one with pairs, none of which is written.
func (b bed) tree(t *testing.T, m pairs) *tree.Tree {
	t.Helper()
	x := b.open(t, api.Ptr{})
	become(t, x, m)
	return x
}

// root is that of a tree with pairs.
func (b bed) root(t *testing.T, m pairs) api.Ptr {
	t.Helper()
	return syncs(t, b.tree(t, m))
}

// become makes a tree one with pairs, by calls in the order of no map.
func become(t *testing.T, x *tree.Tree, m pairs) {
	t.Helper()
	for _, p := range all(t, x) {
		if v, ok := m[p.Key]; !ok || v != p.Val {
			want(t, "Drop", x.Drop(p.Key), api.OK)
		}
	}
	for k, v := range m {
		want(t, "Put", x.Put(k, v), api.OK)
	}
}

// syncs writes a tree.
func syncs(t *testing.T, x *tree.Tree) api.Ptr {
	t.Helper()
	p, _, e := x.Sync()
	want(t, "Sync", e, api.OK)
	return p
}

// want holds an error against the one that must be.
func want(t *testing.T, what string, got, must api.Errno) {
	t.Helper()
	if got != must {
		t.Fatalf("%s: error %d, not %d", what, got, must)
	}
}

// all are all pairs of a tree.
func all(t *testing.T, x *tree.Tree) []api.Pair {
	t.Helper()
	l, e := x.Range("", "", math.MaxInt)
	want(t, "Range", e, api.OK)
	return l
}

// tells holds a tree to just some pairs.
func tells(t *testing.T, x *tree.Tree, m pairs) {
	t.Helper()
	l := all(t, x)
	for _, p := range l {
		if v, ok := m[p.Key]; !ok || v != p.Val {
			t.Fatalf("%q: %q, not %q", p.Key, p.Val, v)
		}
	}
	if len(l) != len(m) {
		t.Fatalf("%d pairs, not %d", len(l), len(m))
	}
}

// sum is a text's sum, by Go's own library.
func sum(s string) string {
	b := sha256.Sum256([]byte(s))
	return string(b[:])
}

// digest is what Digest must tell of pairs.
func digest(m pairs) string {
	s := ""
	for _, k := range slices.Sorted(maps.Keys(m)) {
		s += sum(k) + sum(m[k])
	}
	return sum(s)
}

// num and txt are items.
func num(n int) api.Item    { return api.Item{Kind: 1, N: n} }
func txt(s string) api.Item { return api.Item{Kind: 2, S: s} }

// puts and drops are the items of changes.
func puts(key, val string) []api.Item { return []api.Item{txt(key), num(1), txt(val)} }
func drops(key string) []api.Item     { return []api.Item{txt(key), num(0)} }

// head is a stream's first items.
func head(old, now pairs) []api.Item {
	return []api.Item{num(88), txt(digest(old)), txt(digest(now))}
}

// itemsOf are the items of what makes some pairs of others.
func itemsOf(old, now pairs) []api.Item {
	l := head(old, now)
	both := maps.Clone(old)
	maps.Copy(both, now)
	for _, k := range slices.Sorted(maps.Keys(both)) {
		was, wasThere := old[k]
		v, ok := now[k]
		switch {
		case !ok:
			l = append(l, drops(k)...)
		case !wasThere || was != v:
			l = append(l, puts(k, v)...)
		}
	}
	return l
}

// sealed are items' bytes, with their sum.
func sealed(t *testing.T, l ...[]api.Item) []byte {
	t.Helper()
	b, e := pack.Encode(slices.Concat(l...))
	want(t, "Encode", e, api.OK)
	return append(b, sum(string(b))...)
}

// sends holds Send to the one stream that makes some pairs of others.
func (b bed) sends(t *testing.T, old, now past) []byte {
	t.Helper()
	x, e := stream.Send(b.Store, old.root, now.root)
	if must := sealed(t, itemsOf(old.m, now.m)); e != api.OK || string(x) != string(must) {
		t.Fatalf("Send: %d bytes, %d, not %d", len(x), e, len(must))
	}
	return x
}

// noSend holds a Send to an error.
func (b bed) noSend(t *testing.T, old, root api.Ptr, must api.Errno) {
	t.Helper()
	if x, e := stream.Send(b.Store, old, root); len(x) != 0 || e != must {
		t.Fatalf("Send: %d bytes, %d, not %d", len(x), e, must)
	}
}

// refuses holds a Receive to an error, and wants nothing to be changed: not even what the tree's next Sync tells.
func refuses(t *testing.T, what string, x *tree.Tree, b []byte, must api.Errno) {
	t.Helper()
	was, dirty := all(t, x), x.Dirty()
	if e := stream.Receive(x, b); e != must {
		t.Fatalf("%s: Receive: error %d, not %d", what, e, must)
	}
	if !slices.Equal(all(t, x), was) || x.Dirty() != dirty {
		t.Fatalf("%s: Receive changed something", what)
	}
}

// receives wants a Receive to make a tree one with pairs.
func receives(t *testing.T, x *tree.Tree, b []byte, m pairs) {
	t.Helper()
	want(t, "Receive", stream.Receive(x, b), api.OK)
	tells(t, x, m)
}

// past is a root, and the pairs that its tree has.
type past struct {
	root api.Ptr
	m    pairs
}

// pasts are roots in a store, of trees that came of one another.
func (b bed) pasts(t *testing.T, rnd *rand.Rand, count, keys int) []past {
	t.Helper()
	l := []past{{m: pairs{}}}
	for range count {
		was := anyOf(rnd, l)
		m := maps.Clone(was.m)
		for range rnd.Intn(keys) {
			k := key(rnd.Intn(keys))
			if delete(m, k); rnd.Intn(3) > 0 {
				m[k] = bytesOf(rnd, rnd.Intn(anyOf(rnd, []int{1, 20, 301})))
			}
		}
		x := b.open(t, was.root)
		become(t, x, m)
		l = append(l, past{syncs(t, x), m})
	}
	return l
}

// anyOf is one of a list.
func anyOf[T any](rnd *rand.Rand, l []T) T { return l[rnd.Intn(len(l))] }

// bytesOf is a text of n random bytes.
func bytesOf(rnd *rand.Rand, n int) string {
	b := make([]byte, n)
	rnd.Read(b)
	return string(b)
}

// long is a text of n bytes.
func long(n int) string { return strings.Repeat("x", n) }

// key is one of many keys, of unlike sizes.
func key(i int) string { return fmt.Sprintf("%04d", i) + long(i%21) }

// many are so many pairs with values of n bytes.
func many(count, n int) pairs {
	m := pairs{}
	for i := range count {
		m[key(i)] = long(n)
	}
	return m
}
