package scrub_test

import (
	"bytes"
	"slices"
	"testing"

	"hoard/api"
)

// harmed makes drives on which some blocks are wrong, each in another way, and two are lost.
func harmed(t *testing.T) *bed {
	t.Helper()
	b := lay(t, 6, 40, 300, 1, 700, 200, 1, 300, 90)
	b.r.Replace(5)
	b.r.Rot(0, 2, 7)
	b.r.Rot(1, 5, 7)
	b.r.Rot(2, 5, 7)
	for _, i := range []int{3, 6} { // from their first cells on, three of four drives and more
		for k := range 4 {
			c := b.l[i].Addr + k
			b.r.Rot(c%6, 2+c/6, 9)
		}
	}
	return b
}

// same holds what one bed's drives hold to another's, and how many writes there were.
func same(t *testing.T, b, twin *bed) {
	t.Helper()
	if b.r.Pending() != twin.r.Pending() || !slices.EqualFunc(b.all(), twin.all(), bytes.Equal) {
		t.Fatal("the drives hold other bytes")
	}
}

// P17.3: however a scrub is broken off and resumed, with blocks handed in in another order each time, it does what one in one go does.
func TestParts(t *testing.T) {
	whole := harmed(t)
	must := whole.scrubAll(t)
	if must.Done != 7 || must.Wrong < 3 || must.Lost < 1 {
		t.Fatal(must)
	}
	for cuts := range 1 << 7 { // behind which of the blocks it is broken off
		b := harmed(t)
		l := slices.Clone(b.l)
		c := b.begin(t, l)
		var drives []int
		for i := range 7 {
			steps(t, c, 1, i == 6)
			if cuts>>i&1 == 1 {
				drives = append(drives, c.Report().Drives...)
				slices.Reverse(l)
				l[i], l[3] = l[3], l[i]
				c = b.resume(t, l, c.Cursor())
				met(t, c.Report(), i+1, c.Report().Wrong, c.Report().Lost)
			}
		}
		drives = append(drives, c.Report().Drives...)
		slices.Sort(drives)
		if drives = slices.Compact(drives); !slices.Equal(drives, must.Drives) {
			t.Fatal(cuts, drives)
		}
		stands(t, c, end, must.Done, must.Wrong, must.Lost, c.Report().Drives...)
		same(t, b, whole)
	}
}

// P17.3: with mishaps between the parts a scrub that is resumed does what one that goes on does.
func TestPartsMishaps(t *testing.T) {
	for seed := range 40 {
		b, twin := harmed(t), harmed(t)
		c, d := b.begin(t, b.l), twin.begin(t, twin.l)
		for i := 0; i < 7; {
			n := 1 + (seed+i)%3
			steps(t, c, n, i+n >= 7)
			steps(t, d, n, i+n >= 7)
			i += n
			for _, x := range []*bed{b, twin} {
				x.r.Rot((seed+i)%6, 2+(seed*i)%9, seed*i)
				if seed%4 == 0 {
					x.r.Replace((seed / 4) % 6)
				}
				if seed%5 == 0 {
					want(t, "Flush", x.r.Flush(), api.OK)
				}
			}
			c = b.resume(t, b.l, c.Cursor())
			if c.Cursor() != d.Cursor() {
				t.Fatalf("%x, not %x", c.Cursor(), d.Cursor())
			}
		}
		same(t, b, twin)
	}
}

// P17.3: each block is met once: a block that was met, and rots then, is left as it is.
func TestOnce(t *testing.T) {
	for broken := range 8 {
		b := harmed(t)
		c := b.begin(t, b.l)
		steps(t, c, broken, broken >= 7)
		was := b.r.Pending()
		for i := range broken {
			b.r.Rot(b.l[i].Addr%6, 2+b.l[i].Addr/6, 55)
		}
		rotten := b.all()
		c = b.resume(t, b.l, c.Cursor())
		steps(t, c, 7-broken, true)
		stands(t, c, end, 7, c.Report().Wrong, c.Report().Lost, c.Report().Drives...)
		for i := range broken {
			at := b.l[i].Addr + 2*6
			if !bytes.Equal(b.all()[at], rotten[at]) {
				t.Fatal(broken, i)
			}
		}
		if broken == 7 && b.r.Pending() != was {
			t.Error("something was written")
		}
	}
}

// P17.3: blocks that came or went meanwhile: those ahead of the cursor aren't met, those behind it are.
func TestOtherBlocks(t *testing.T) {
	b := lay(t, 5, 40, 300, 1, 700, 200, 1) // at 0, 9, 13, 28, 33
	b.r.Replace(4)
	c := b.begin(t, []api.Ptr{b.l[1], b.l[2], b.l[4]})
	steps(t, c, 1, false)
	c = b.resume(t, []api.Ptr{b.l[4], b.l[3], b.l[0], b.l[1]}, c.Cursor())
	stands(t, c, 28, 1, 1, 0)
	steps(t, c, 2, true)
	stands(t, c, end, 3, 3, 0, 4)
	for i, must := range []bool{false, true, false, true, true} {
		if b.whole(t, i) != must {
			t.Error("block", i)
		}
	}
}
