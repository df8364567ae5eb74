package scrub_test

import (
	"testing"

	"hoard/api"
)

// allThree are the sets of just three of n drives.
func allThree(n int) [][]int {
	var r [][]int
	for _, l := range threes(n) {
		if len(l) == 3 {
			r = append(r, l)
		}
	}
	return r
}

// mended makes drives fail, puts new ones in the place of those that are gone, and scrubs, k blocks in each scrub.
func mended(t *testing.T, drives int, failed []int, way, k int) *bed {
	t.Helper()
	b := lay(t, drives, 30, 1, 300, 1024, 130)
	b.fail(failed, way)
	if o := b.scrubAll(t); o.Done != 4 || o.Lost != 0 {
		t.Fatal(drives, failed, way, o)
	}
	for _, d := range failed {
		if b.r.Gone(d) {
			b.r.Replace(d)
		}
	}
	c := b.begin(t, b.l)
	for done := 0; done < 4; done += k {
		c = b.resume(t, b.l, c.Cursor())
		steps(t, c, k, done+k >= 4)
	}
	if o := c.Report(); o.Done != 4 || o.Lost != 0 {
		t.Fatal(drives, failed, way, o)
	}
	b.allWhole(t)
	met(t, b.scrubAll(t), 4, 0, 0)
	return b
}

// P17.2: whichever up to three drives failed, and however: behind a scrub to the end all is whole, and any three drives may fail then.
func TestWhole(t *testing.T) {
	for _, drives := range []int{5, 7} {
		turn := 0
		for _, failed := range threes(drives) {
			for way := range 5 {
				for i, then := range allThree(drives) {
					if turn++; drives > 5 && i%12 != turn%12 {
						continue
					}
					b := mended(t, drives, failed, way, 1+turn%4)
					b.fail(then, turn%5)
					b.reads(t)
				}
			}
		}
	}
}

// P17.2: drives may fail again and again, three at a time, as long as there is a scrub between.
func TestAgain(t *testing.T) {
	b := lay(t, 6, 30, 1, 300, 1024, 130)
	for turn, failed := range allThree(6) {
		b.fail(failed, 1+turn%2) // rotten, or new
		o := b.scrubAll(t)
		if o.Lost != 0 || o.Wrong == 0 {
			t.Fatal(turn, o)
		}
		b.allWhole(t)
	}
	b.reads(t)
}

// P17.2: what a scrub mends lasts behind a flush.
func TestLasts(t *testing.T) {
	b := lay(t, 5, 30, 1, 300, 1024)
	for d := range 3 {
		b.r.Replace(d)
	}
	b.scrubAll(t)
	want(t, "Flush", b.r.Flush(), api.OK)
	b.r.Crash(nil)
	b.allWhole(t)
	b.fail([]int{2, 3, 4}, 0)
	b.reads(t)
}
