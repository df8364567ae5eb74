package store_test

import (
	"bytes"
	"fmt"
	"math"
	"math/rand"
	"slices"
	"testing"

	"hoard/api"
	"hoard/array"
	"hoard/rack"
	"hoard/sha"
	"hoard/space"
	"hoard/store"
)

// bed is a store with its array and its rack.
type bed struct {
	*store.Store
	a *array.Array
	r *rack.Rack
}

// lay makes a store on new drives, of which some ranges of cells (pairs of numbers) are used; its cells begin at sector 2.
func lay(t *testing.T, drives, sectors int, used ...int) bed {
	t.Helper()
	r, e := rack.New(drives, sectors)
	if e != api.OK {
		t.Fatal(e)
	}
	a, e := array.New(r, 2)
	if e != api.OK {
		t.Fatal(e)
	}
	s, e := store.New(a, list(used...), 1)
	if e != api.OK {
		t.Fatal(e)
	}
	return bed{s, a, r}
}

// anew is another store on the same array, that remembers nothing.
func (b bed) anew(t *testing.T) bed {
	t.Helper()
	s, e := store.New(b.a, b.Used(), b.Txg())
	if e != api.OK {
		t.Fatal(e)
	}
	return bed{s, b.a, b.r}
}

// list is ranges of pairs of numbers.
func list(n ...int) []space.Range {
	var r []space.Range
	for i := 0; i < len(n); i += 2 {
		r = append(r, space.Range{From: n[i], To: n[i+1]})
	}
	return r
}

// bytesOf are n bytes, other ones for each seed.
func bytesOf(n, seed int) []byte {
	b := make([]byte, n)
	rand.New(rand.NewSource(int64(n*1000 + seed))).Read(b)
	return b
}

// off makes the power go off.
func (b bed) off() {
	b.r.Arm(0)
	b.r.Flush()
}

// all are the bytes of all sectors: of one whose drive is gone none.
func all(r *rack.Rack) [][]byte {
	var l [][]byte
	for at := range r.Sectors() {
		for d := range r.Drives() {
			x, _ := r.Read(d, at)
			l = append(l, x)
		}
	}
	return l
}

// tell is a pointer with its sum in digits.
func tell(p api.Ptr) string {
	return fmt.Sprintf("{%d %d %d %x}", p.Addr, p.Size, p.Birth, p.Sum)
}

// want holds an error against the one that must be.
func want(t *testing.T, what string, got, must api.Errno) {
	t.Helper()
	if got != must {
		t.Errorf("%s: error %d, not %d", what, got, must)
	}
}

// puts puts a block that must be taken.
func (b bed) puts(t *testing.T, x []byte) api.Ptr {
	t.Helper()
	p, e := b.Put(x)
	if e != api.OK {
		t.Fatalf("Put of %d bytes: %d", len(x), e)
	}
	return p
}

// unput holds a Put to an error, and nothing else.
func (b bed) unput(t *testing.T, x []byte, must api.Errno) {
	t.Helper()
	was := b.Counts()
	if p, e := b.Put(x); e != must || p != (api.Ptr{}) {
		t.Errorf("Put of %d bytes: %v, %d, not %d", len(x), tell(p), e, must)
	}
	if b.Counts() != was {
		t.Error("a Put that is refused is counted")
	}
}

// gets holds a Get to a block.
func (b bed) gets(t *testing.T, p api.Ptr, must []byte) {
	t.Helper()
	if x, e := b.Get(p); e != api.OK || !bytes.Equal(x, must) {
		t.Errorf("Get(%v): %v, %d, not %v", tell(p), x, e, must)
	}
}

// ungot holds a Get to an error, and nothing else.
func (b bed) ungot(t *testing.T, p api.Ptr, must api.Errno) {
	t.Helper()
	was := b.Counts()
	if x, e := b.Get(p); e != must || len(x) != 0 {
		t.Errorf("Get(%v): %v, %d, not %d", tell(p), x, e, must)
	}
	if b.Counts() != was {
		t.Error("a Get that is refused is counted")
	}
}

// counts holds the counts to what they must be.
func (b bed) counts(t *testing.T, gets, hits, reads, heals, puts int) {
	t.Helper()
	if c := b.Counts(); c != (store.Counts{Gets: gets, Hits: hits, Reads: reads, Heals: heals, Puts: puts}) {
		t.Errorf("counts: %v, not %v", c, []int{gets, hits, reads, heals, puts})
	}
}

// cells holds a store to what is free and used of its cells.
func (b bed) cells(t *testing.T, free int, used ...int) {
	t.Helper()
	if b.Free() != free || !slices.Equal(b.Used(), list(used...)) {
		t.Errorf("%d free, used %v; not %d, %v", b.Free(), b.Used(), free, used)
	}
}

// P9.1: the chapter's example.
func TestExample(t *testing.T) {
	b := lay(t, 5, 10)
	p := b.puts(t, []byte("abc"))
	b.gets(t, p, []byte("abc"))
	b.counts(t, 1, 1, 0, 0, 1)
	want(t, "Give", b.Give(p), api.OK)
	if n := b.Settle(); n != 4 {
		t.Error("Settle", n)
	}
	want(t, "Give", b.Give(p), api.ErrMiss)
	b.unput(t, nil, api.ErrArg)
	want(t, "Begin", b.Begin(0), api.ErrArg)
}

// P9.1: New's errors, in their order; a new store has just the cells that it is told.
func TestNew(t *testing.T) {
	b := lay(t, 5, 10)
	for _, c := range []struct {
		a    *array.Array
		used []space.Range
		txg  int
		must api.Errno
	}{
		{nil, nil, 1, api.ErrArg},
		{nil, list(3, 3), 1, api.ErrArg},
		{new(array.Array), nil, 1, api.ErrArg},
		{new(array.Array), list(3, 3), 1, api.ErrArg},
		{b.a, nil, 0, api.ErrArg},
		{b.a, nil, -1, api.ErrArg},
		{b.a, nil, math.MinInt, api.ErrArg},
		{b.a, list(3, 3), 0, api.ErrArg},
		{b.a, list(3, 3), 1, api.ErrForm},
		{b.a, list(0, 41), 1, api.ErrForm},
		{b.a, list(-1, 2), 1, api.ErrForm},
		{b.a, list(0, 2, 1, 3, 5, 4), 1, api.ErrForm},
		{b.a, list(0, 2, 1, 3), 1, api.ErrThere},
	} {
		if s, e := store.New(c.a, c.used, c.txg); s != nil || e != c.must {
			t.Errorf("New(%v, %d): %v, %d, not %d", c.used, c.txg, s, e, c.must)
		}
	}
	lay(t, 5, 10).cells(t, 40)
	lay(t, 5, 10, 0, 40).cells(t, 0, 0, 40)
	lay(t, 5, 10, 7, 9, 3, 4, 4, 7).cells(t, 34, 3, 9)
	for _, txg := range []int{1, 7, math.MaxInt} {
		s, e := store.New(b.a, []space.Range{}, txg)
		if e != api.OK || s.Txg() != txg || s.Free() != 40 || len(s.Used()) != 0 || s.Counts() != (store.Counts{}) {
			t.Error(txg, s, e)
		}
	}
}

// P9.1: the transaction's number never falls, and blocks are born in it.
func TestBegin(t *testing.T) {
	b := lay(t, 5, 30)
	for _, c := range []struct {
		to   int
		must api.Errno
		is   int
	}{
		{1, api.OK, 1}, {0, api.ErrArg, 1}, {-1, api.ErrArg, 1}, {math.MinInt, api.ErrArg, 1}, {4, api.OK, 4},
		{3, api.ErrArg, 4}, {4, api.OK, 4}, {9, api.OK, 9}, {math.MaxInt, api.OK, math.MaxInt}, {9, api.ErrArg, math.MaxInt},
	} {
		want(t, "Begin", b.Begin(c.to), c.must)
		if p := b.puts(t, []byte{1}); b.Txg() != c.is || p.Birth != c.is {
			t.Errorf("Begin(%d): %d, born in %d, not %d", c.to, b.Txg(), p.Birth, c.is)
		}
	}
}

// P9.1: a block lies on the first cells that have room for it, as array.Write writes it, and nothing else is written.
func TestPut(t *testing.T) {
	for drives := 5; drives <= 16; drives++ {
		b, twin := lay(t, drives, 40, 1, 3, 8, 9), lay(t, drives, 40)
		row, _ := space.New(b.a.Cells(), list(1, 3, 8, 9))
		for i, size := range []int{1, 128, 129, 1024, 5, 256, 257, 640, 1023} {
			x := bytesOf(size, i)
			n, _ := b.a.Cost(size)
			addr, _ := row.Take(n)
			want(t, "Write", twin.a.Write(addr, x), api.OK)
			if p := b.puts(t, x); p != (api.Ptr{Addr: addr, Size: size, Birth: 1, Sum: sha.Sum(x)}) {
				t.Errorf("Put of %d bytes: %v, not at %d", size, tell(p), addr)
			}
			if b.Free() != row.Free() || !slices.Equal(b.Used(), row.Used()) || b.r.Pending() != twin.r.Pending() {
				t.Errorf("behind a Put of %d bytes: %d free, used %v", size, b.Free(), b.Used())
			}
			b.counts(t, 0, 0, 0, 0, i+1)
		}
		if !slices.EqualFunc(all(b.r), all(twin.r), bytes.Equal) {
			t.Error("other cells than array.Write's, on drives:", drives)
		}
	}
}

// P9.1: Put's errors, in their order; of a size or a want of room nothing is changed.
func TestPutErrors(t *testing.T) {
	b := lay(t, 5, 4, 3, 5) // of ten cells 0 to 2 and 5 to 9 are free: no nine in a row
	for _, n := range []int{0, 1025, 5000} {
		b.unput(t, make([]byte, n), api.ErrArg)
	}
	b.unput(t, []byte{}, api.ErrArg)
	b.unput(t, make([]byte, 257), api.ErrSpace)
	b.unput(t, make([]byte, 1024), api.ErrSpace)
	b.off()
	b.unput(t, make([]byte, 1025), api.ErrArg)
	b.unput(t, make([]byte, 257), api.ErrSpace)
	b.cells(t, 8, 3, 5)
	for d := range 4 {
		b.r.Lose(d)
	}
	b.unput(t, nil, api.ErrArg)
	b.unput(t, make([]byte, 257), api.ErrSpace)
	b.cells(t, 8, 3, 5)
	if b.Settle() != 0 {
		t.Error("a Put without room gives cells back")
	}
	b.unput(t, make([]byte, 256), api.ErrIO) // ahead of: the power is off
	b.cells(t, 3, 3, 5)
	b.unput(t, make([]byte, 1), api.ErrSpace)
}

// P9.1: the cells of a block that more than three of its drives keep from being written are given back.
func TestPutGone(t *testing.T) {
	b := lay(t, 6, 20)
	for d := range 4 {
		b.r.Lose(d)
	}
	b.unput(t, bytesOf(1, 1), api.ErrIO) // on 0 to 3
	b.cells(t, 104)                      // leaving
	p := b.puts(t, bytesOf(1, 1))        // on 4, 5, 0, 1
	if p.Addr != 4 || b.r.Pending() != 2 {
		t.Error(tell(p), b.r.Pending())
	}
	b.cells(t, 100, 4, 8)
	if n := b.Settle(); n != 4 {
		t.Error("Settle", n)
	}
	b.cells(t, 104, 4, 8)
	b.gets(t, p, bytesOf(1, 1))
	b.gets(t, p, bytesOf(1, 1))
	b.counts(t, 2, 2, 0, 0, 1)
}

// P9.1: so are those of a block on whose way the power goes off; what was written of it waits, and it isn't remembered.
func TestPutDown(t *testing.T) {
	x := bytesOf(1000, 2) // eight sectors, in four rows of five
	for n := range 21 {
		b := lay(t, 5, 20, 0, 3)
		b.r.Arm(n)
		if n == 20 {
			b.cells(t, 87, 0, 3)
			if p := b.puts(t, x); p.Addr != 3 {
				t.Error(tell(p))
			}
			continue
		}
		b.unput(t, x, api.ErrDown)
		if b.r.Pending() != n {
			t.Errorf("%d cells written, not %d", b.r.Pending(), n)
		}
		b.cells(t, 67, 0, 3)
		b.ungot(t, api.Ptr{Addr: 3, Size: 1000, Birth: 1, Sum: sha.Sum(x)}, api.ErrDown)
		b.r.Crash(nil)
		if k := b.Settle(); k != 20 {
			t.Error("Settle", k)
		}
		if p := b.puts(t, x); p.Addr != 3 {
			t.Error(tell(p))
		}
	}
}

// P9.1: Give's errors, in their order, and what it changes.
func TestGive(t *testing.T) {
	b := lay(t, 5, 10)
	x := bytesOf(200, 3) // two sectors, in one row
	p := b.puts(t, x)
	q := b.puts(t, x)
	b.cells(t, 30, 0, 10)
	sum := sha.Sum(nil)
	for _, c := range []struct {
		addr, size int
		must       api.Errno
	}{
		{0, 0, api.ErrArg}, {0, -1, api.ErrArg}, {0, 1025, api.ErrArg}, {10, 0, api.ErrArg}, {99, 1025, api.ErrArg},
		{-1, 1, api.ErrArg}, {37, 1, api.ErrArg}, {36, 129, api.ErrArg}, {40, 1, api.ErrArg}, {21, 1024, api.ErrArg},
		{0, math.MaxInt, api.ErrArg}, {0, math.MinInt, api.ErrArg}, {math.MaxInt, 1, api.ErrArg}, {math.MinInt, 1, api.ErrArg},
		{36, 1, api.ErrMiss}, {10, 1, api.ErrMiss}, {7, 1, api.ErrMiss}, {6, 200, api.ErrMiss}, {0, 1024, api.ErrMiss},
	} {
		want(t, "Give", b.Give(api.Ptr{Addr: c.addr, Size: c.size, Birth: 1, Sum: sum}), c.must)
	}
	b.cells(t, 30, 0, 10)
	b.gets(t, q, x)
	b.counts(t, 1, 1, 0, 0, 2)
	b.off() // nothing of the drives is wanted
	want(t, "Give", b.Give(p), api.OK)
	want(t, "Give", b.Give(p), api.ErrMiss)
	b.cells(t, 30, 5, 10)
	if n := b.Settle(); n != 5 {
		t.Error("Settle", n)
	}
	b.cells(t, 35, 5, 10)
	want(t, "Give", b.Give(p), api.ErrMiss)
	if n := b.Settle(); n != 0 {
		t.Error("Settle", n)
	}
}

// P9.3: cells that are given back aren't taken until that is settled; then they are.
func TestSettled(t *testing.T) {
	b := lay(t, 5, 6)
	l := []api.Ptr{b.puts(t, []byte{1}), b.puts(t, []byte{2}), b.puts(t, []byte{3}), b.puts(t, []byte{4}), b.puts(t, []byte{5})}
	b.unput(t, []byte{6}, api.ErrSpace)
	want(t, "Give", b.Give(l[3]), api.OK)
	want(t, "Give", b.Give(l[1]), api.OK)
	b.unput(t, []byte{6}, api.ErrSpace)
	b.cells(t, 0, 0, 4, 8, 12, 16, 20)
	if n := b.Settle(); n != 8 {
		t.Error("Settle", n)
	}
	b.cells(t, 8, 0, 4, 8, 12, 16, 20)
	b.unput(t, make([]byte, 129), api.ErrSpace) // eight cells, but no five in a row
	for _, addr := range []int{4, 12} {
		if p := b.puts(t, []byte{6}); p.Addr != addr {
			t.Error(tell(p), "not at", addr)
		}
	}
	b.cells(t, 0, 0, 20)
}

// wild are numbers at the ends of their type, and some about the limits.
var wild = []int{math.MinInt, math.MinInt + 1, -1025, -1, 0, 1, 31, 32, 33, 39, 40, 128, 1024, 1025, math.MaxInt - 1, math.MaxInt}

// P1: no call of no store, or of one that New didn't make, panics, or answers anything but as said.
func TestNoStore(t *testing.T) {
	for _, s := range []*store.Store{nil, new(store.Store)} {
		for _, n := range wild {
			p := api.Ptr{Addr: n, Size: n, Birth: n, Sum: sha.Sum(nil)}
			want(t, "Begin", s.Begin(n), api.ErrArg)
			want(t, "Give", s.Give(p), api.ErrArg)
			if b, e := s.Get(p); len(b) != 0 || e != api.ErrArg {
				t.Error("Get", b, e)
			}
			if l, e := s.Heal(p); len(l) != 0 || e != api.ErrArg {
				t.Error("Heal", l, e)
			}
		}
		for _, b := range [][]byte{nil, {}, {1}, make([]byte, 1024), make([]byte, 1025)} {
			if p, e := s.Put(b); p != (api.Ptr{}) || e != api.ErrArg {
				t.Error("Put", tell(p), e)
			}
		}
		if s.Txg() != 0 || s.Settle() != 0 || s.Free() != 0 || len(s.Used()) != 0 || s.Counts() != (store.Counts{}) {
			t.Error("there is something of no store")
		}
	}
}

// P1: pointers of whatever numbers and sums are answered, and those that are none change nothing.
func TestWildPointers(t *testing.T) {
	b := lay(t, 5, 10)
	p := b.puts(t, bytesOf(300, 4))
	b.r.Flush()
	b.r.Rot(3, 2, 5)
	was := all(b.r)
	for _, addr := range wild {
		for _, size := range wild {
			for _, sum := range []string{"", "x", p.Sum[1:], p.Sum + "x", sha.Sum(nil)} {
				q := api.Ptr{Addr: addr, Size: size, Birth: addr, Sum: sum}
				must := api.ErrIO
				if _, e := b.a.Drives(addr, size); e != api.OK || len(sum) != 32 {
					must = api.ErrArg
				}
				b.ungot(t, q, must)
				if l, e := b.Heal(q); len(l) != 0 || e != must {
					t.Error("Heal", tell(q), l, e)
				}
			}
		}
	}
	if !slices.EqualFunc(all(b.r), was, bytes.Equal) || b.r.Pending() != 0 {
		t.Error("something was written")
	}
	b.gets(t, p, bytesOf(300, 4))
	b.counts(t, 1, 1, 0, 0, 1)
}

// P9.4: what is handed in isn't kept or changed, its spare room neither.
func TestHandedIn(t *testing.T) {
	b := lay(t, 5, 10)
	whole := bytesOf(500, 5)
	x := slices.Clone(whole)
	p := b.puts(t, x[:300])
	if !bytes.Equal(x, whole) {
		t.Error("Put changes what it is given")
	}
	clear(x)
	b.gets(t, p, whole[:300])
	b.anew(t).gets(t, p, whole[:300])

	used := list(8, 9, 2, 4, 4, 6, 1, 1)
	s, e := store.New(b.a, used[:3], 1)
	if e != api.OK || !slices.Equal(used, list(8, 9, 2, 4, 4, 6, 1, 1)) {
		t.Error("New changes what it is given", e)
	}
	clear(used)
	bed{s, b.a, b.r}.cells(t, 35, 2, 6, 8, 9)
}

// P9.4: answers are new memory.
func TestAnswers(t *testing.T) {
	x := bytesOf(300, 6)
	b := lay(t, 5, 10)
	p := b.puts(t, x)
	s := b.anew(t)
	for range 3 { // the array answers, then the memory
		for _, s := range []bed{b, s} {
			got, _ := s.Get(p)
			clear(got[:cap(got)])
			s.gets(t, p, x)
		}
	}
	l := b.Used()
	clear(l)
	b.cells(t, 31, 0, 9)
	b.r.Replace(1)
	b.r.Replace(3)
	to, _ := b.Heal(p)
	clear(to)
	if to, e := b.Heal(p); e != api.OK || len(to) != 0 {
		t.Error(to, e)
	}
	b.anew(t).gets(t, p, x)
}
