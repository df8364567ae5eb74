package array_test

import (
	"bytes"
	"math/rand"
	"slices"
	"testing"

	"hoard/api"
	"hoard/array"
	"hoard/parity"
	"hoard/rack"
	"hoard/sha"
)

// bed is an array with its rack.
type bed struct {
	*array.Array
	r     *rack.Rack
	first int
}

// lay makes an array of new drives.
func lay(t *testing.T, drives, sectors, first int) bed {
	t.Helper()
	r, e := rack.New(drives, sectors)
	if e != api.OK {
		t.Fatal(e)
	}
	a, e := array.New(r, first)
	if e != api.OK {
		t.Fatal(e)
	}
	return bed{a, r, first}
}

// holds is what a cell holds: nothing if its drive is gone.
func (b bed) holds(cell int) []byte {
	n := b.r.Drives()
	x, _ := b.r.Read(cell%n, b.first+cell/n)
	return x
}

// all are the bytes of all sectors, ahead of the array too.
func (b bed) all() [][]byte {
	var r [][]byte
	for at := range b.r.Sectors() {
		for d := range b.r.Drives() {
			x, _ := b.r.Read(d, at)
			r = append(r, x)
		}
	}
	return r
}

// off makes the power go off.
func (b bed) off() {
	b.r.Arm(0)
	b.r.Flush()
}

// bytesOf are n bytes, other ones for each seed.
func bytesOf(n, seed int) []byte {
	b := make([]byte, n)
	rand.New(rand.NewSource(int64(n*1000 + seed))).Read(b)
	return b
}

// twice is x times a, as polynomials.
func twice(a byte) byte {
	if a >= 128 {
		return a<<1 ^ 29
	}
	return a << 1
}

// sums are a row's P, Q and R.
func sums(row [][]byte) [][]byte {
	p := [][]byte{make([]byte, 128), make([]byte, 128), make([]byte, 128)}
	for i := len(row) - 1; i >= 0; i-- {
		for n, x := range row[i] {
			p[0][n] ^= x
			p[1][n] = twice(p[1][n]) ^ x
			p[2][n] = twice(twice(p[2][n])) ^ x
		}
	}
	return p
}

// cells are what the cells of a block on so many drives must hold.
func cells(b []byte, drives int) [][]byte {
	var r, row [][]byte
	for len(b) > 0 {
		s := make([]byte, 128)
		b = b[copy(s, b):]
		row = append(row, s)
		if len(row) == drives-3 || len(b) == 0 {
			r = append(r, sums(row)...)
			r = append(r, row...)
			row = nil
		}
	}
	return r
}

// expect holds a block's cells to what they must hold, but those of drives that are gone.
func (b bed) expect(t *testing.T, addr int, block []byte) {
	t.Helper()
	for i, must := range cells(block, b.r.Drives()) {
		if got := b.holds(addr + i); got != nil && !bytes.Equal(got, must) {
			t.Fatalf("cell %d of a block of %d on %d drives: %v, not %v", i, len(block), b.r.Drives(), got, must)
		}
	}
}

// used are the drives of a block's cells, rising.
func used(drives, addr, n int) []int {
	var r []int
	for i := range n {
		r = append(r, (addr+i)%drives)
	}
	slices.Sort(r)
	return slices.Compact(r)
}

// without is a block's data as layer 3 makes it again without some drives.
func (b bed) without(addr, n int, out []int) []byte {
	drives := b.r.Drives()
	var all []byte
	for n > 0 {
		k := min(n, drives) - 3
		cols := make([][]byte, k+3)
		var bad []int
		for i := range cols {
			cell := addr + 3 + i // data first, then P, Q, R
			if i >= k {
				cell = addr + i - k
			}
			cols[i] = b.holds(cell)
			if slices.Contains(out, cell%drives) {
				bad = append(bad, i)
			}
		}
		cols, _ = parity.Rebuild(cols, bad)
		for _, c := range cols[:k] {
			all = append(all, c...)
		}
		addr += k + 3
		n -= k + 3
	}
	return all
}

// tries are the sets of drives that a Read tries, in their order: all sets, sorted.
func (b bed) tries(drives []int) [][]int {
	var r [][]int
	for mask := range 1 << len(drives) {
		var set []int
		lost := 0
		for i, d := range drives {
			if mask>>i&1 == 1 {
				set = append(set, d)
			} else if b.r.Gone(d) {
				lost++
			}
		}
		if lost == 0 && len(set) <= 3 {
			r = append(r, set)
		}
	}
	others := func(set []int) []int {
		return slices.DeleteFunc(slices.Clone(set), b.r.Gone)
	}
	slices.SortFunc(r, func(x, y []int) int {
		if len(x) != len(y) {
			return len(x) - len(y)
		}
		return slices.Compare(others(x), others(y))
	})
	return r
}

// model is what Read must answer of a block that is there, with the power on.
func (b bed) model(addr, size int, sum string) ([]byte, []int, api.Errno) {
	n, _ := b.Cost(size)
	for _, set := range b.tries(used(b.r.Drives(), addr, n)) {
		if got := b.without(addr, n, set)[:size]; sha.Sum(got) == sum {
			return got, set, api.OK
		}
	}
	return nil, nil, api.ErrIO
}

// spoil lets drives fail: some lost, some replaced by new ones, of some a part rots.
func (b bed) spoil(rnd *rand.Rand, how int) {
	for range how {
		d := rnd.Intn(b.r.Drives())
		switch rnd.Intn(4) {
		case 0:
			b.r.Lose(d)
		case 1:
			b.r.Replace(d)
		default:
			for at := range b.r.Sectors() {
				if rnd.Intn(2) == 0 {
					b.r.Rot(d, at, rnd.Intn(100000))
				}
			}
		}
	}
}

// P6.1, P6.4: Read and Repair answer as a walk through all sets, sorted, does.
func TestModel(t *testing.T) {
	rnd := rand.New(rand.NewSource(61))
	told := map[api.Errno]int{}
	for n := range 3000 {
		b := lay(t, 5+rnd.Intn(12), 12, rnd.Intn(3))
		size := 1 + rnd.Intn(1024)
		cost, _ := b.Cost(size)
		if cost > b.Cells() {
			continue
		}
		addr := rnd.Intn(b.Cells() - cost + 1)
		block := bytesOf(size, n)
		if e := b.Write(addr, block); e != api.OK {
			t.Fatal(e)
		}
		b.spoil(rnd, rnd.Intn(6))
		sum := sha.Sum(block)
		must, out, me := b.model(addr, size, sum)
		got, left, e := b.Read(addr, size, sum)
		if e != me || !bytes.Equal(got, must) || !slices.Equal(left, out) {
			t.Fatalf("Read(%d, %d) on %d drives: %v, %v, not %v, %v", addr, size, b.r.Drives(), left, e, out, me)
		}
		if e == api.OK && !bytes.Equal(got, block) {
			t.Fatal("other bytes than were written")
		}
		told[e]++
		b.repaired(t, addr, block, e)
	}
	if told[api.OK] < 100 || told[api.ErrIO] < 100 {
		t.Error("too few of a kind:", told)
	}
}

// repaired holds a Repair to the cells that it must write, and to its answer.
func (b bed) repaired(t *testing.T, addr int, block []byte, must api.Errno) {
	t.Helper()
	b.r.Flush()
	was := b.all()
	var wrong []int
	writes := 0
	for i, c := range cells(block, b.r.Drives()) {
		if is := b.holds(addr + i); is != nil && !bytes.Equal(is, c) {
			wrong = append(wrong, (addr+i)%b.r.Drives())
			writes++
		}
	}
	slices.Sort(wrong)
	to, e := b.Repair(addr, len(block), sha.Sum(block))
	if e != must {
		t.Fatal(e, must)
	}
	if e != api.OK {
		if len(to) != 0 || b.r.Pending() != 0 || !slices.EqualFunc(b.all(), was, bytes.Equal) {
			t.Fatal("a Repair that failed did something", to)
		}
		return
	}
	if !slices.Equal(to, slices.Compact(wrong)) || b.r.Pending() != writes {
		t.Fatalf("Repair: %v, %d writes, not %v, %d", to, b.r.Pending(), wrong, writes)
	}
	b.expect(t, addr, block)
}
