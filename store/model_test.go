package store_test

import (
	"bytes"
	"math/rand"
	"slices"
	"testing"

	"hoard/api"
	"hoard/array"
	"hoard/rack"
	"hoard/sha"
	"hoard/space"
	"hoard/store"
)

// known is a block that the model remembers.
type known struct {
	bytes []byte
	sum   string
	asked int // when it was put or got last
}

// model is a store as the chapter tells it, on a rack of its own.
type model struct {
	r      *rack.Rack
	a      *array.Array
	cells  *space.Space
	txg    int
	memory map[int]known
	clock  int
	counts store.Counts
}

// remember is what the memory does with a block that is put or got.
func (m *model) remember(p api.Ptr, b []byte) {
	m.clock++
	m.memory[p.Addr] = known{bytes.Clone(b), p.Sum, m.clock}
	if len(m.memory) > 64 {
		oldest := p.Addr
		for addr, k := range m.memory {
			if k.asked < m.memory[oldest].asked {
				oldest = addr
			}
		}
		delete(m.memory, oldest)
	}
}

// put is what Put must do.
func (m *model) put(b []byte) (api.Ptr, api.Errno) {
	n, e := m.a.Cost(len(b))
	if e != api.OK {
		return api.Ptr{}, api.ErrArg
	}
	addr, e := m.cells.Take(n)
	if e != api.OK {
		return api.Ptr{}, e
	}
	if e := m.a.Write(addr, b); e != api.OK {
		m.cells.Give(addr, n)
		return api.Ptr{}, e
	}
	p := api.Ptr{Addr: addr, Size: len(b), Birth: m.txg, Sum: sha.Sum(b)}
	m.remember(p, b)
	m.counts.Puts++
	return p, api.OK
}

// get is what Get must do.
func (m *model) get(p api.Ptr) ([]byte, api.Errno) {
	if k, ok := m.memory[p.Addr]; ok && k.sum == p.Sum && len(k.bytes) == p.Size {
		m.remember(p, k.bytes)
		m.counts.Gets++
		m.counts.Hits++
		return k.bytes, api.OK
	}
	b, out, e := m.a.Read(p.Addr, p.Size, p.Sum)
	if e != api.OK {
		return nil, e
	}
	if len(out) > 0 {
		if _, e := m.a.Repair(p.Addr, p.Size, p.Sum); e == api.ErrDown {
			return nil, e
		}
		m.counts.Heals++
	}
	m.remember(p, b)
	m.counts.Gets++
	m.counts.Reads++
	return b, api.OK
}

// give is what Give must do.
func (m *model) give(p api.Ptr) api.Errno {
	n, e := m.a.Cost(p.Size)
	if e == api.OK {
		e = m.cells.Give(p.Addr, n)
	}
	if e == api.OK {
		delete(m.memory, p.Addr)
	}
	return e
}

// walk is a store beside its model, and what was put into it.
type walk struct {
	bed
	m     *model
	rnd   *rand.Rand
	ptrs  []api.Ptr
	texts map[string][]byte // by sum
	live  map[int]api.Ptr   // the cells of blocks that aren't given back and settled
	gave  []api.Ptr         // since the last Settle
	told  map[api.Errno]int
}

// begin makes a walk.
func begin(t *testing.T, seed int64) *walk {
	rnd := rand.New(rand.NewSource(seed))
	drives, sectors := 5+rnd.Intn(12), 25+rnd.Intn(60)
	b := lay(t, drives, sectors, 3, 5)
	twin := lay(t, drives, sectors)
	cells, _ := space.New(b.a.Cells(), list(3, 5))
	m := &model{r: twin.r, a: twin.a, cells: cells, txg: 1, memory: map[int]known{}}
	return &walk{bed: b, m: m, rnd: rnd, texts: map[string][]byte{}, live: map[int]api.Ptr{}, told: map[api.Errno]int{}}
}

// size is a block's: mostly a small one, at times none or too many.
func (w *walk) size() int {
	switch w.rnd.Intn(12) {
	case 0:
		return []int{0, 1, 128, 1023, 1024, 1025, 3000}[w.rnd.Intn(7)]
	case 1:
		return 1 + w.rnd.Intn(1024)
	}
	return 1 + w.rnd.Intn(140)
}

// pick is a pointer to some block, at times one that is a bit wrong.
func (w *walk) pick() api.Ptr {
	if len(w.ptrs) == 0 {
		return api.Ptr{}
	}
	p := w.ptrs[w.rnd.Intn(len(w.ptrs))]
	switch w.rnd.Intn(40) {
	case 0:
		p.Addr += w.rnd.Intn(5) - 2
	case 1:
		p.Size += w.rnd.Intn(5) - 2
	case 2:
		p.Birth = w.rnd.Intn(9) - 2
	case 3:
		p.Sum = []string{"", p.Sum[1:], sha.Sum(nil), p.Sum + "x"}[w.rnd.Intn(4)]
	}
	return p
}

// put puts a block to both.
func (w *walk) put(t *testing.T) {
	x := bytesOf(w.size(), w.rnd.Intn(1000))
	p, e := w.Put(x)
	if q, f := w.m.put(x); p != q || e != f {
		t.Fatalf("Put: %v, %d, not %v, %d", tell(p), e, tell(q), f)
	}
	if w.told[e]++; e != api.OK {
		return
	}
	w.ptrs = append(w.ptrs, p)
	w.texts[p.Sum] = x
	n, _ := w.a.Cost(p.Size)
	for c := p.Addr; c < p.Addr+n; c++ {
		if q, ok := w.live[c]; ok {
			t.Fatalf("%v and %v have the cell %d in common", tell(p), tell(q), c)
		}
		w.live[c] = p
	}
}

// get gets a block from both.
func (w *walk) get(t *testing.T) {
	p := w.pick()
	x, e := w.Get(p)
	if y, f := w.m.get(p); !bytes.Equal(x, y) || e != f {
		t.Fatalf("Get(%v): %v, %d, not %v, %d", tell(p), x, e, y, f)
	}
	if e == api.OK && !bytes.Equal(x, w.texts[p.Sum]) {
		t.Fatal("other bytes than were put")
	}
	w.told[e]++
}

// give gives a block back to both.
func (w *walk) give(t *testing.T) {
	p := w.pick()
	e := w.Give(p)
	if f := w.m.give(p); e != f {
		t.Fatalf("Give(%v): %d, not %d", tell(p), e, f)
	}
	if w.told[e]++; e == api.OK {
		w.gave = append(w.gave, p)
	}
}

// settle settles both.
func (w *walk) settle(t *testing.T) {
	if n, k := w.Settle(), w.m.cells.Settle(); n != k {
		t.Fatal("Settle", n, "not", k)
	}
	for _, p := range w.gave {
		n, _ := w.a.Cost(p.Size)
		for c := p.Addr; c < p.Addr+n; c++ {
			delete(w.live, c)
		}
	}
	w.gave = nil
}

// heal heals a block on both.
func (w *walk) heal(t *testing.T) {
	p := w.pick()
	l, e := w.Heal(p)
	k, f := w.m.a.Repair(p.Addr, p.Size, p.Sum)
	if e != f || !slices.Equal(l, k) {
		t.Fatalf("Heal(%v): %v, %d, not %v, %d", tell(p), l, e, k, f)
	}
}

// mishap is one of the drives' or the power's, for both.
func (w *walk) mishap() {
	d, n := w.rnd.Intn(w.r.Drives()), w.rnd.Intn(1000)
	at := 2 + w.rnd.Intn(w.r.Sectors()-2)
	k := w.rnd.Intn(14)
	for _, r := range []*rack.Rack{w.r, w.m.r} {
		switch k {
		case 0, 1:
			r.Lose(d)
		case 2, 3, 4, 5, 6:
			for d := range r.Drives() { // those that are gone
				if r.Gone(d) {
					r.Replace(d)
				}
			}
		case 7:
			r.Arm(n % 40)
		case 8, 9:
			r.Flush()
		case 10:
			r.Crash([]int{n, n / 2, n / 4, n / 8, n / 16, n / 32})
		default:
			r.Rot(d, at, n)
		}
	}
}

// turn does one call to both.
func (w *walk) turn(t *testing.T) {
	switch k := w.rnd.Intn(100); {
	case k < 30:
		w.put(t)
	case k < 75:
		w.get(t)
	case k < 85:
		w.give(t)
	case k < 88:
		w.settle(t)
	case k < 93:
		w.heal(t)
	case k < 95:
		to := w.m.txg + w.rnd.Intn(5) - 2
		must := api.ErrArg
		if to >= w.m.txg {
			w.m.txg, must = to, api.OK
		}
		want(t, "Begin", w.Begin(to), must)
	default:
		w.mishap()
	}
}

// same holds the store to the model.
func (w *walk) same(t *testing.T) {
	m := w.m
	if w.Txg() != m.txg || w.Free() != m.cells.Free() || !slices.Equal(w.Used(), m.cells.Used()) {
		t.Fatal(w.Txg(), w.Free(), w.Used(), "not", m.txg, m.cells.Free(), m.cells.Used())
	}
	if w.Counts() != m.counts || w.r.Pending() != m.r.Pending() {
		t.Fatal(w.Counts(), w.r.Pending(), "not", m.counts, m.r.Pending())
	}
}

// P9.1, P9.3: calls in whatever order, with mishaps between, answer as the chapter tells them, and leave the same on the drives.
func TestModel(t *testing.T) {
	told := map[api.Errno]int{}
	var sum store.Counts
	for seed := range int64(60) {
		w := begin(t, seed)
		for range 700 {
			w.turn(t)
			w.same(t)
		}
		w.r.Crash(nil)
		w.m.r.Crash(nil)
		if !slices.EqualFunc(all(w.r), all(w.m.r), bytes.Equal) {
			t.Fatal("other bytes on the drives, of seed", seed)
		}
		for e, n := range w.told {
			told[e] += n
		}
		sum.Hits += w.Counts().Hits
		sum.Reads += w.Counts().Reads
		sum.Heals += w.Counts().Heals
	}
	for _, e := range []api.Errno{api.OK, api.ErrArg, api.ErrIO, api.ErrSpace, api.ErrMiss, api.ErrDown} {
		if told[e] < 50 {
			t.Error("too few of a kind:", told)
		}
	}
	if sum.Hits < 500 || sum.Reads < 500 || sum.Heals < 200 || sum.Reads-sum.Heals < 200 {
		t.Error("too few of a kind:", sum)
	}
}
