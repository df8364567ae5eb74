package scrub_test

import (
	"math"
	"slices"
	"testing"

	"hoard/api"
	"hoard/sha"
)

// What became of a block, by what a step of one counts.
const (
	fine  = "fine"
	wrong = "wrong"
	lost  = "lost"
	none  = "none" // it is no block
)

// fates are what becomes of a list's blocks, one behind the other, and the addresses at which the scrub stood.
func (b *bed) fates(t *testing.T, l []api.Ptr) (r []string, at []string) {
	t.Helper()
	c := b.begin(t, l)
	for i := range l {
		was := c.Report()
		at = append(at, c.Cursor())
		steps(t, c, 1, i == len(l)-1)
		o := c.Report()
		switch {
		case o.Done != was.Done+1:
			t.Fatal("no block was done, or more")
		case o.Wrong == was.Wrong+1 && o.Lost == was.Lost:
			r = append(r, wrong)
		case o.Wrong == was.Wrong && o.Lost == was.Lost+1:
			r = append(r, lost)
		case o.Wrong != was.Wrong || o.Lost != was.Lost:
			t.Fatal(was, o)
		default:
			r = append(r, fine)
		}
	}
	return r, at
}

// becomes holds what becomes of blocks when so many drives were replaced, in whatever order the blocks are handed in.
func becomes(t *testing.T, drives int, l []api.Ptr, must ...string) {
	t.Helper()
	for _, o := range orders(l) {
		b := lay(t, 5, 20, 200, 200)
		for d := range drives {
			b.r.Replace(d)
		}
		if r, _ := b.fates(t, o); !slices.Equal(r, must) {
			t.Fatalf("%v, not %v", r, must)
		}
	}
}

// P17.1: of one address the births come first, then the sizes, then the sums: whichever way they are handed in.
func TestOneAddress(t *testing.T) {
	b := lay(t, 5, 20, 200, 200)
	p, far := b.l[0], b.l[1]
	low, high := string(make([]byte, 32)), string(slices.Repeat([]byte{255}, 32))
	with := func(birth, size int, sum string) api.Ptr {
		return api.Ptr{Addr: p.Addr, Birth: birth, Size: size, Sum: sum}
	}
	// births ahead of sizes and sums
	becomes(t, 1, []api.Ptr{with(2, 1, low), with(1, 200, p.Sum)}, wrong, lost)
	becomes(t, 1, []api.Ptr{with(0, 300, high), with(1, 200, p.Sum)}, lost, wrong)
	becomes(t, 1, []api.Ptr{with(-1, 1024, high), with(math.MinInt, 200, p.Sum), with(math.MaxInt, 1, low), with(math.MaxInt-1, 200, p.Sum)}, wrong, lost, fine, lost)
	// sizes ahead of sums
	becomes(t, 1, []api.Ptr{with(1, 201, low), with(1, 200, p.Sum)}, wrong, lost)
	becomes(t, 1, []api.Ptr{with(1, 199, high), with(1, 200, p.Sum)}, lost, wrong)
	becomes(t, 1, []api.Ptr{with(1, 0, high), with(1, math.MaxInt, low), with(1, math.MinInt, high), with(1, 200, p.Sum)}, fine, fine, wrong, fine)
	// sums, byte by byte
	becomes(t, 1, []api.Ptr{with(1, 200, low), with(1, 200, high), with(1, 200, p.Sum)}, lost, wrong, lost)
	becomes(t, 1, []api.Ptr{with(1, 200, p.Sum[:31]+string([]byte{p.Sum[31] ^ 1})), with(1, 200, p.Sum)}, sumOrder(p.Sum)...)
	// addresses ahead of all
	becomes(t, 1, []api.Ptr{with(9, 1024, high), {Addr: far.Addr, Birth: 1, Size: 200, Sum: low}, with(9, 200, p.Sum), far}, wrong, lost, lost, wrong)
}

// sumOrder is what becomes of a block with a sum, and one with its last bit turned.
func sumOrder(sum string) []string {
	if sum[31]&1 == 0 {
		return []string{wrong, lost}
	}
	return []string{lost, wrong}
}

// P17.1: a block that is there twice is met twice; the first time mends it.
func TestTwice(t *testing.T) {
	b := lay(t, 5, 20, 200, 200)
	p, q := b.l[0], b.l[1]
	becomes(t, 1, []api.Ptr{p, p}, wrong, fine)
	becomes(t, 3, []api.Ptr{q, p, p, q, p}, wrong, fine, fine, wrong, fine)
	becomes(t, 4, []api.Ptr{q, p, p, q}, lost, lost, lost, lost)
	later := p
	later.Birth = 5
	becomes(t, 2, []api.Ptr{later, p, later}, wrong, fine, fine)
}

// P17.1: the blocks are met in the order of their addresses, however many there are.
func TestManyBlocks(t *testing.T) {
	sizes := make([]int, 300)
	for i := range sizes {
		sizes[i] = 1 + i*37%900
	}
	b := lay(t, 7, 700, sizes...)
	b.r.Replace(2)
	b.r.Replace(6)
	l := slices.Clone(b.l)
	for i := range l {
		j := i * 7919 % len(l)
		l[i], l[j] = l[j], l[i]
	}
	_, at := b.fates(t, l)
	for i, p := range b.l {
		if next, _, _, _ := told(t, at[i]); next != p.Addr {
			t.Fatal(i, next, p.Addr)
		}
	}
	b.allWhole(t)
}

// P17.1: addresses are compared as numbers: those below nought come first.
func TestAddresses(t *testing.T) {
	var l []api.Ptr
	for _, n := range wild {
		l = append(l, api.Ptr{Addr: n, Birth: -n, Size: 1, Sum: sha.Sum(nil)})
	}
	slices.Reverse(l)
	b := lay(t, 5, 20)
	fates, at := b.fates(t, l)
	for i, n := range wild {
		if next, _, _, _ := told(t, at[i]); next != n {
			t.Fatal(i, next, n)
		}
		must := fine
		if n >= 0 && n < 87 {
			must = lost // nothing is there
		}
		if fates[i] != must {
			t.Error(n, fates[i])
		}
	}
}
