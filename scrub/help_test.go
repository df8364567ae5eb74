package scrub_test

import (
	"bytes"
	"fmt"
	"math"
	"math/rand"
	"slices"
	"testing"

	"hoard/api"
	"hoard/array"
	"hoard/pack"
	"hoard/rack"
	"hoard/scrub"
	"hoard/store"
)

// wild are numbers at the ends of their type, and some about the limits.
var wild = []int{math.MinInt, math.MinInt + 1, -1 << 60, -1, 0, 1, 2, 39, 40, 1024, 1025, 1<<60 - 1, 1 << 60, 1<<60 + 1, math.MaxInt - 1, math.MaxInt}

// bed is a store with its array and its rack, and the blocks that were put there.
type bed struct {
	*store.Store
	a *array.Array
	r *rack.Rack
	l []api.Ptr
	x [][]byte
}

// lay makes a store on new drives with blocks of these sizes, which last. (The same ones each time, at the same places.)
func lay(t *testing.T, drives, sectors int, sizes ...int) *bed {
	t.Helper()
	r, e := rack.New(drives, sectors)
	want(t, "rack.New", e, api.OK)
	a, e := array.New(r, 2)
	want(t, "array.New", e, api.OK)
	s, e := store.New(a, nil, 1)
	want(t, "store.New", e, api.OK)
	b := &bed{Store: s, a: a, r: r}
	for i, n := range sizes {
		x := bytesOf(n, i)
		p, e := s.Put(x)
		want(t, "Put", e, api.OK)
		b.l = append(b.l, p)
		b.x = append(b.x, x)
	}
	want(t, "Flush", r.Flush(), api.OK)
	return b
}

// bytesOf are n bytes, other ones for each seed.
func bytesOf(n, seed int) []byte {
	b := make([]byte, n)
	rand.New(rand.NewSource(int64(n*1000 + seed))).Read(b)
	return b
}

// want holds an error against the one that must be.
func want(t *testing.T, what string, got, must api.Errno) {
	t.Helper()
	if got != must {
		t.Fatalf("%s: error %d, not %d", what, got, must)
	}
}

// off makes the power go off.
func (b *bed) off() {
	b.r.Arm(0)
	b.r.Flush()
}

// fail makes drives fail: lost (0), rotten (1), replaced by new ones (2), or each in another way (3 and more).
func (b *bed) fail(drives []int, way int) {
	for i, d := range drives {
		switch (way%3 + i*(way/3)) % 3 {
		case 0:
			b.r.Lose(d)
		case 1:
			b.rot(d)
		case 2:
			b.r.Replace(d)
		}
	}
}

// rot makes all of a drive's sectors rot.
func (b *bed) rot(d int) {
	for at := range b.r.Sectors() {
		b.r.Rot(d, at, d+at*200)
	}
}

// cell is what a cell holds.
func (b *bed) cell(c int) ([]byte, api.Errno) {
	return b.r.Read(c%b.r.Drives(), 2+c/b.r.Drives())
}

// whole: does each cell of a block hold what was written there?
func (b *bed) whole(t *testing.T, i int) bool {
	t.Helper()
	twin := lay(t, b.r.Drives(), b.r.Sectors())
	want(t, "Write", twin.a.Write(b.l[i].Addr, b.x[i]), api.OK)
	n, e := b.a.Cost(b.l[i].Size)
	want(t, "Cost", e, api.OK)
	for c := b.l[i].Addr; c < b.l[i].Addr+n; c++ {
		is, e := b.cell(c)
		if must, _ := twin.cell(c); e != api.OK || !bytes.Equal(is, must) {
			return false
		}
	}
	return true
}

// allWhole holds all blocks to what was written.
func (b *bed) allWhole(t *testing.T) {
	t.Helper()
	for i := range b.l {
		if !b.whole(t, i) {
			t.Fatalf("block %d isn't whole", i)
		}
	}
}

// reads holds all blocks to what was put, by a store that remembers nothing.
func (b *bed) reads(t *testing.T) {
	t.Helper()
	s, e := store.New(b.a, b.Used(), b.Txg())
	want(t, "store.New", e, api.OK)
	for i, p := range b.l {
		if x, e := s.Get(p); e != api.OK || !bytes.Equal(x, b.x[i]) {
			t.Fatalf("block %d: error %d", i, e)
		}
	}
}

// all are the bytes of all sectors: of one whose drive is gone none.
func (b *bed) all() [][]byte {
	var l [][]byte
	for at := range b.r.Sectors() {
		for d := range b.r.Drives() {
			x, _ := b.r.Read(d, at)
			l = append(l, x)
		}
	}
	return l
}

// begin is a new scrub.
func (b *bed) begin(t *testing.T, l []api.Ptr) *scrub.Scrub {
	t.Helper()
	c, e := scrub.New(b.Store, l)
	want(t, "New", e, api.OK)
	return c
}

// resume is a scrub from a cursor on.
func (b *bed) resume(t *testing.T, l []api.Ptr, cursor string) *scrub.Scrub {
	t.Helper()
	c, e := scrub.Resume(b.Store, l, cursor)
	want(t, "Resume", e, api.OK)
	return c
}

// refuses holds a Resume to ErrForm.
func (b *bed) refuses(t *testing.T, l []api.Ptr, cursor string) {
	t.Helper()
	if c, e := scrub.Resume(b.Store, l, cursor); c != nil || e != api.ErrForm {
		t.Errorf("Resume of %x: %v, %d", cursor, c != nil, e)
	}
}

// scrubAll scrubs all blocks, and tells what was met.
func (b *bed) scrubAll(t *testing.T) scrub.Report {
	t.Helper()
	c := b.begin(t, b.l)
	steps(t, c, math.MaxInt, true)
	return c.Report()
}

// steps holds a Step to an answer without an error.
func steps(t *testing.T, c *scrub.Scrub, n int, must bool) {
	t.Helper()
	if all, e := c.Step(n); all != must || e != api.OK {
		t.Fatalf("Step(%d): %v, %d, not %v", n, all, e, must)
	}
}

// fails holds a Step to an error.
func fails(t *testing.T, c *scrub.Scrub, n int, must api.Errno) {
	t.Helper()
	if all, e := c.Step(n); all || e != must {
		t.Fatalf("Step(%d): %v, %d, not %d", n, all, e, must)
	}
}

// stands holds a scrub to the address of the block that is next, and to what it has met.
func stands(t *testing.T, c *scrub.Scrub, next, done, wrong, lost int, drives ...int) {
	t.Helper()
	if s := c.Cursor(); s != cursor(next, done, wrong, lost) {
		t.Fatalf("Cursor: %x, not of %d, %d, %d, %d", s, next, done, wrong, lost)
	}
	met(t, c.Report(), done, wrong, lost, drives...)
}

// met holds a report to what it must tell.
func met(t *testing.T, o scrub.Report, done, wrong, lost int, drives ...int) {
	t.Helper()
	if o.Done != done || o.Wrong != wrong || o.Lost != lost || !slices.Equal(o.Drives, drives) {
		t.Fatalf("Report: %v, not %d, %d, %d, %v", o, done, wrong, lost, drives)
	}
}

// end is the address that a cursor tells of no block.
const end = 1 << 60

// cursor is that of these numbers.
func cursor(n ...int) string {
	var l []api.Item
	for _, x := range n {
		l = append(l, num(x))
	}
	return spelled(l...)
}

// spelled are the bytes of items.
func spelled(l ...api.Item) string {
	b, e := pack.Encode(l)
	if e != api.OK {
		panic(fmt.Sprint(l, e))
	}
	return string(b)
}

// num and txt are items.
func num(n int) api.Item    { return api.Item{Kind: 1, N: n} }
func txt(s string) api.Item { return api.Item{Kind: 2, S: s} }

// threes are all sets of up to three of n drives.
func threes(n int) [][]int {
	r := [][]int{nil}
	for i := range n {
		r = append(r, []int{i})
		for j := range i {
			r = append(r, []int{j, i})
			for k := range j {
				r = append(r, []int{k, j, i})
			}
		}
	}
	return r
}

// orders are all orders of some blocks.
func orders(l []api.Ptr) [][]api.Ptr {
	if len(l) == 0 {
		return [][]api.Ptr{nil}
	}
	var r [][]api.Ptr
	for i, p := range l {
		for _, o := range orders(slices.Concat(l[:i], l[i+1:])) {
			r = append(r, append(o, p))
		}
	}
	return r
}
