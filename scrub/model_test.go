package scrub_test

import (
	"bytes"
	"math/rand"
	"slices"
	"testing"

	"hoard/api"
	"hoard/scrub"
	"hoard/sha"
)

// plain is a scrub as the chapter tells it, with all its blocks in a list, of another bed.
type plain struct {
	b                 *bed
	l                 []api.Ptr
	at                int
	done, wrong, lost int
	drives            [api.MaxDrives]bool
}

// less: does a pointer come ahead of another one?
func less(p, q api.Ptr) bool {
	switch {
	case p.Addr != q.Addr:
		return p.Addr < q.Addr
	case p.Birth != q.Birth:
		return p.Birth < q.Birth
	case p.Size != q.Size:
		return p.Size < q.Size
	}
	return p.Sum < q.Sum
}

// newPlain is one that stands ahead of all: its list is made by putting each block ahead of those that it is less than.
func newPlain(b *bed, l []api.Ptr) *plain {
	c := &plain{b: b}
	for _, p := range l {
		i := 0
		for i < len(c.l) && !less(p, c.l[i]) {
			i++
		}
		c.l = slices.Insert(c.l, i, p)
	}
	return c
}

// skip makes it stand ahead of the first block whose address isn't below one, with some counts.
func (c *plain) skip(next, done, wrong, lost int) {
	for c.at < len(c.l) && c.l[c.at].Addr < next {
		c.at++
	}
	c.done, c.wrong, c.lost = done, wrong, lost
}

// step is Step.
func (c *plain) step(n int) (bool, api.Errno) {
	for i := 0; i < n && c.at < len(c.l); i++ {
		p := c.l[c.at]
		to, e := c.b.a.Repair(p.Addr, p.Size, p.Sum)
		if e == api.ErrDown {
			return false, e
		}
		c.at++
		c.done++
		if e == api.ErrIO {
			c.lost++
		}
		if len(to) > 0 {
			c.wrong++
		}
		for _, d := range to {
			c.drives[d] = true
		}
	}
	return c.at == len(c.l), api.OK
}

// next is the address of the block that is next.
func (c *plain) next() int {
	if c.at == len(c.l) {
		return end
	}
	return c.l[c.at].Addr
}

// told are the drives that it met.
func (c *plain) told() []int {
	var r []int
	for d, met := range c.drives {
		if met {
			r = append(r, d)
		}
	}
	return r
}

// game is a bed and its twin, with a scrub and its model.
type game struct {
	b, twin *bed
	l       []api.Ptr
	c       *scrub.Scrub
	m       *plain
}

// list makes another list of blocks: some of those that are there, some twice, some nearly the same, in any order.
func (g *game) list(x *rand.Rand) {
	g.l = nil
	for range x.Intn(12) {
		p := g.b.l[x.Intn(len(g.b.l))]
		switch x.Intn(8) {
		case 0:
			p.Size += x.Intn(3) - 1
		case 1:
			p.Birth = x.Intn(4)
		case 2:
			p.Sum = sha.Sum([]byte{byte(x.Intn(4))})
		case 3:
			p.Addr += x.Intn(3) - 1
		}
		if p.Addr >= 0 {
			g.l = append(g.l, p)
		}
	}
}

// mishap is one that becomes of both racks.
func (g *game) mishap(x *rand.Rand) {
	d, at, n := x.Intn(g.b.r.Drives()), x.Intn(8), x.Intn(9999)
	for _, b := range []*bed{g.b, g.twin} {
		switch n % 9 {
		case 0:
			b.r.Lose(d)
		case 1, 2:
			b.r.Replace(d)
		case 3, 4, 5:
			b.r.Rot(d, at, n)
		case 6:
			b.r.Flush()
		case 7:
			b.r.Arm(n % 12)
		case 8:
			b.r.Crash([]int{n, n / 2, n / 4, n / 8, n / 16})
		}
	}
}

// turn is a call of both, or a mishap.
func (g *game) turn(t *testing.T, x *rand.Rand) {
	switch x.Intn(10) {
	case 0:
		g.list(x)
		g.c, g.m = g.b.begin(t, g.l), newPlain(g.twin, g.l)
	case 1, 2: // in the same list, or in another one
		if x.Intn(2) == 0 {
			g.list(x)
		}
		next, done, wrong, lost := told(t, g.c.Cursor())
		g.c = g.b.resume(t, g.l, g.c.Cursor())
		g.m = newPlain(g.twin, g.l)
		g.m.skip(next, done, wrong, lost)
	case 3, 4, 5, 6:
		n := x.Intn(5) - 1
		all, e := g.c.Step(n)
		if must, f := g.m.step(n); all != must || e != f {
			t.Fatalf("Step(%d): %v, %d, not %v, %d", n, all, e, must, f)
		}
	default:
		g.mishap(x)
	}
}

// P17.1: whatever is called, and whatever becomes of the drives: a scrub answers, and writes, as a plain one does.
func TestModel(t *testing.T) {
	for seed := range 60 {
		x := rand.New(rand.NewSource(int64(seed)))
		sizes := []int{1, 129, 300, 1, 512, 64}[:1+seed%6]
		g := game{b: lay(t, 5+seed%4, 12, sizes...), twin: lay(t, 5+seed%4, 12, sizes...)}
		g.c, g.m = g.b.begin(t, nil), newPlain(g.twin, nil)
		for range 150 {
			g.turn(t, x)
			stands(t, g.c, g.m.next(), g.m.done, g.m.wrong, g.m.lost, g.m.told()...)
			if g.b.r.Pending() != g.twin.r.Pending() || !slices.EqualFunc(g.b.all(), g.twin.all(), bytes.Equal) {
				t.Fatal("the drives hold other bytes")
			}
		}
	}
}
