package scrub_test

import (
	"math"
	"slices"
	"strings"
	"testing"

	"hoard/api"
	"hoard/pack"
	"hoard/scrub"
)

// told are the numbers of a cursor.
func told(t *testing.T, cursor string) (next, done, wrong, lost int) {
	t.Helper()
	l, e := pack.Decode([]byte(cursor))
	if e != api.OK || len(l) != 4 {
		t.Fatal(l, e)
	}
	for _, x := range l {
		if x.Kind != 1 {
			t.Fatal(l)
		}
	}
	return l[0].N, l[1].N, l[2].N, l[3].N
}

// P17.1: Cursor is the encoding of four numbers, byte for byte.
func TestCursorBytes(t *testing.T) {
	b := lay(t, 5, 40, 300, 300, 300, 300, 300, 300, 300, 300)
	b.r.Rot(0, 2, 0)
	b.r.Replace(2)
	c := b.begin(t, b.l)
	for i, must := range []string{"\x01\x00\x01\x00\x01\x00\x01\x00", "\x01\x12\x01\x02\x01\x02\x01\x00", "\x01\x24\x01\x04\x01\x04\x01\x00"} {
		if s := c.Cursor(); s != must {
			t.Errorf("%x, not %x", s, must)
		}
		if i == 1 {
			b.r.Replace(2)
		}
		steps(t, c, 1, false)
	}
	for _, d := range []int{0, 1, 3} {
		b.r.Replace(d)
	}
	steps(t, c, 5, true)
	if s := c.Cursor(); s != "\x01\x80\x80\x80\x80\x80\x80\x80\x80\x20\x01\x10\x01\x06\x01\x0a" {
		t.Errorf("%x", s)
	}
}

// P17.1: Resume stands ahead of the first block whose address isn't below the cursor's, with the cursor's counts, and without its drives.
func TestResume(t *testing.T) {
	b := lay(t, 5, 40, 300, 200, 1) // at 0, 9, 14
	for _, l := range orders(b.l) {
		for next := range 20 {
			must := end
			for _, at := range []int{14, 9, 0} {
				if at >= next {
					must = at
				}
			}
			c := b.resume(t, l, cursor(next, 40, 7, 5))
			stands(t, c, must, 40, 7, 5)
		}
		for _, next := range []int{end - 1, end} {
			c := b.resume(t, l, cursor(next, 2, 1, 1))
			stands(t, c, end, 2, 1, 1)
			steps(t, c, 1, true)
			stands(t, c, end, 2, 1, 1)
		}
	}
	b.r.Replace(4)
	c := b.resume(t, b.l, cursor(3, 40, 7, 5))
	steps(t, c, 1, false)
	stands(t, c, 14, 41, 8, 5, 4)
	for d := range 4 {
		b.r.Replace(d)
	}
	steps(t, c, 1, true)
	stands(t, c, end, 42, 8, 6, 4)
}

// P17.1: of one address Resume stands ahead of the first block again, wherever the scrub stood among them.
func TestResumeOneAddress(t *testing.T) {
	b := lay(t, 5, 40, 300, 200, 1)
	l := slices.Concat(b.l, b.l[1:2], b.l[1:2])
	l[4].Birth = 7
	c := b.begin(t, l)
	steps(t, c, 3, false)
	stands(t, c, 9, 3, 0, 0)
	c = b.resume(t, l, c.Cursor())
	stands(t, c, 9, 3, 0, 0)
	steps(t, c, 3, false)
	stands(t, c, 14, 6, 0, 0)
}

// P17.1: other scrubs' cursors do, of other stores and other blocks too, and of none.
func TestOthersCursors(t *testing.T) {
	b, other := lay(t, 5, 40, 300, 200, 1), lay(t, 9, 90, 1, 1024, 5, 5)
	other.r.Replace(1)
	c := other.begin(t, other.l)
	for i := range 5 {
		next, done, wrong, lost := told(t, c.Cursor())
		d := b.resume(t, b.l, c.Cursor())
		if x, n, w, k := told(t, d.Cursor()); x < next || n != done || w != wrong || k != lost {
			t.Error(i, x, n, w, k)
		}
		stands(t, b.resume(t, nil, c.Cursor()), end, done, wrong, lost)
		if i < 4 {
			steps(t, c, 1, i == 3)
		}
	}
	stands(t, b.resume(t, b.l, b.begin(t, nil).Cursor()), end, 0, 0, 0)
	stands(t, b.resume(t, b.l, b.begin(t, b.l).Cursor()), 0, 0, 0, 0)
}

// P17.1: what no scrub tells is refused: other items.
func TestOtherItems(t *testing.T) {
	b := lay(t, 5, 40, 300)
	n := num(0)
	for _, l := range [][]api.Item{
		nil,
		{n}, {n, n}, {n, n, n}, {n, n, n, n, n}, {n, n, n, n, txt("")},
		{txt(""), n, n, n}, {n, txt(""), n, n}, {n, n, txt(""), n}, {n, n, n, txt("")},
		{txt("0"), txt("0"), txt("0"), txt("0")},
		{txt(cursor(0, 0, 0, 0))},
		slices.Repeat([]api.Item{n}, 2000),
	} {
		b.refuses(t, b.l, spelled(l...))
		b.refuses(t, nil, spelled(l...))
	}
}

// P17.1: what no scrub tells is refused: other bytes.
func TestOtherBytes(t *testing.T) {
	b := lay(t, 5, 40, 300)
	good := cursor(0, 3, 1, 2)
	b.resume(t, b.l, good)
	for _, s := range []string{"x", " " + good, good + " ", good + "\x00", good + "\x01", good + good, "\x01\x80\x00\x01\x06\x01\x02\x01\x04", "\x01\x00\x01\x06\x01\x02\x01\x84\x00", strings.Repeat("\x01\x00", 3000), strings.Repeat("\xff", 99)} {
		b.refuses(t, b.l, s)
	}
	for i := range good {
		b.refuses(t, b.l, good[:i])
		b.refuses(t, b.l, good[i+1:])
	}
}

// P17.1: of all single bytes that are other ones those are refused that no scrub tells, and no others.
func TestTurnedBytes(t *testing.T) {
	b := lay(t, 5, 40, 300)
	good := cursor(5, 3, 1, 2)
	for i := range good {
		for x := range 256 {
			bad := []byte(good)
			bad[i] = byte(x)
			l, e := pack.Decode(bad)
			tells := e == api.OK && len(l) == 4 && may(l)
			if c, e := scrub.Resume(b.Store, b.l, string(bad)); (e == api.OK) != tells || (c != nil) != tells || !tells && e != api.ErrForm {
				t.Errorf("%x: %d, but tells: %v", bad, e, tells)
			}
		}
	}
}

// may: may these be the numbers of a scrub of blocks on cells?
func may(l []api.Item) bool {
	for _, x := range l {
		if x.Kind != 1 || x.N < 0 || x.N > end {
			return false
		}
	}
	return l[2].N+l[3].N <= l[1].N
}

// P17.1: what no scrub tells is refused: numbers below nought, or too large: more that is wrong or lost than is done, addresses and counts behind the end.
func TestOtherNumbers(t *testing.T) {
	b := lay(t, 5, 40, 300)
	for _, n := range [][]int{
		{-1, 0, 0, 0}, {math.MinInt, 0, 0, 0}, {end + 1, 0, 0, 0}, {math.MaxInt, 0, 0, 0},
		{0, -1, 0, 0}, {0, math.MinInt, 0, 0}, {0, end + 1, 0, 0}, {0, math.MaxInt, 0, 0},
		{0, 1, -1, 0}, {0, 1, math.MinInt, 0}, {0, 1, 2, 0}, {0, 1, math.MaxInt, 0},
		{0, 1, 0, -1}, {0, 1, 0, math.MinInt}, {0, 1, 0, 2}, {0, 1, 0, math.MaxInt},
		{0, 3, 2, 2}, {0, 3, 4, -1}, {0, 3, -1, 4}, {0, 0, 1, 0}, {0, 0, 0, 1}, {0, 0, -1, 1},
		{0, 3, math.MaxInt, math.MaxInt}, {0, 3, math.MinInt, math.MinInt}, {0, -3, -2, -1},
		{0, 3, math.MaxInt, math.MinInt}, {0, 3, math.MinInt, math.MaxInt}, {end, 3, 2, 2}, {0, math.MinInt, math.MaxInt, 0}, {0, math.MinInt, 0, math.MaxInt},
		{math.MaxInt, math.MaxInt, math.MaxInt, math.MaxInt}, {math.MinInt, math.MinInt, math.MinInt, math.MinInt},
	} {
		b.refuses(t, b.l, cursor(n...))
		b.refuses(t, nil, cursor(n...))
	}
	for _, n := range [][]int{{0, 1, 1, 0}, {0, 1, 0, 1}, {0, 3, 2, 1}, {31999, 9, 0, 0}, {end - 1, 9, 9, 0}, {end, 9, 0, 9}, {0, 1 << 31, 1 << 30, 1 << 30}, {0, end, end, 0}, {end, end, 0, end}} {
		c := b.resume(t, nil, cursor(n...))
		stands(t, c, end, n[1], n[2], n[3])
	}
}

// P1, P17.3: whatever pointers are handed in: a scrub's own cursor is one that the same blocks are resumed with.
func TestWildCursors(t *testing.T) {
	b := lay(t, 5, 20, 1)
	for _, n := range wild {
		for _, m := range wild {
			l := []api.Ptr{{Addr: m, Size: n, Birth: n}, {Addr: n, Size: m, Birth: m, Sum: b.l[0].Sum}, b.l[0]}
			c := b.begin(t, l)
			for i := range l {
				d := b.resume(t, l, c.Cursor())
				if d.Cursor() != c.Cursor() {
					t.Fatalf("%x, not %x", d.Cursor(), c.Cursor())
				}
				steps(t, d, 9, true)
				steps(t, c, 1, i == 2)
			}
			stands(t, c, end, 3, 0, c.Report().Lost)
		}
	}
}
