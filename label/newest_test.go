package label_test

import (
	"bytes"
	"math/rand"
	"testing"

	"hoard/api"
	"hoard/label"
	"hoard/rack"
)

// put writes a record to one drive's sector, be it its place or not.
func put(t *testing.T, r *rack.Rack, drive, at int, u label.Uber) {
	t.Helper()
	if e := r.Write(drive, at, encoded(t, u)); e != api.OK {
		t.Fatal(e)
	}
}

// P8.1: the greatest transaction on whichever drive, in whichever slot; of several the least drive's.
func TestNewest(t *testing.T) {
	r := build(t, 5, 9)
	put(t, r, 3, 2, uber(10, 1))
	newest(t, r, uber(10, 1))
	put(t, r, 1, 7, uber(7, 2))
	newest(t, r, uber(10, 1))
	put(t, r, 4, 2, uber(10, 3))
	newest(t, r, uber(10, 1))
	put(t, r, 2, 2, uber(10, 4))
	newest(t, r, uber(10, 4))
	put(t, r, 4, 0, uber(16, 5))
	newest(t, r, uber(16, 5))
	put(t, r, 0, 3, uber(11, 6))
	newest(t, r, uber(16, 5))
	r.Lose(4)
	newest(t, r, uber(11, 6))
	r.Lose(0)
	newest(t, r, uber(10, 4))
	r.Lose(2)
	newest(t, r, uber(10, 1))
	r.Lose(3)
	newest(t, r, uber(7, 2))
	r.Lose(1)
	lacks(t, r, api.ErrMiss)
}

// P8.1: a record isn't whole where it doesn't belong.
func TestWrongSlot(t *testing.T) {
	for txg := 1; txg <= 17; txg++ {
		for at := range 9 {
			r := build(t, 5, 9)
			put(t, r, 1, at, uber(txg, 1))
			must := []int{-1, -1, -1, -1, -1, -1, -1, -1}
			if at == txg%8 {
				must[at] = txg
				newest(t, r, uber(txg, 1))
			} else {
				lacks(t, r, api.ErrMiss)
			}
			slots(t, r, 1, must...)
		}
	}
}

// P8.2: a crash between two records, with any picks, and drives lost: the newest is the second if it was kept on a drive that is left, else the first.
func TestCrash(t *testing.T) {
	const drives = 5
	for _, next := range []int{4, 11} { // the next slot, and the same one
		for armed := range drives + 2 {
			for picks := range 1 << drives {
				for lost := range 1<<drives - 1 {
					r := build(t, drives, 9)
					one, two := uber(3, 1), uber(next, 2)
					writes(t, r, one, drives)
					r.Flush()
					r.Arm(armed)
					label.Write(r, two)
					if armed == drives {
						if e := r.Flush(); e != api.ErrDown {
							t.Fatal(e)
						}
					}
					r.Crash([]int{picks & 1, picks >> 1, picks >> 2, picks >> 3, picks >> 4})
					must := one
					for drive := range drives {
						if lost>>drive&1 == 1 {
							r.Lose(drive)
						} else if picks>>drive&1 == 1 && drive < armed {
							must = two
						}
					}
					newest(t, r, must)
				}
			}
		}
	}
}

// P8.3: a sector that rots isn't whole, whichever byte it is; the others count.
func TestRot(t *testing.T) {
	for _, turn := range []int{0, 1, 76, 127, 254} {
		for at := range api.Sector {
			r := build(t, 2, 9)
			writes(t, r, uber(9, 1), 2)
			r.Flush()
			writes(t, r, uber(18, 2), 2)
			r.Flush()
			for drive := range 2 {
				newest(t, r, uber(18, 2))
				r.Rot(drive, 2, at+turn*api.Sector)
				slots(t, r, drive, -1, 9, -1, -1, -1, -1, -1, -1)
			}
			newest(t, r, uber(9, 1))
			r.Rot(0, 1, at+turn*api.Sector)
			newest(t, r, uber(9, 1))
			r.Rot(1, 1, at+turn*api.Sector)
			lacks(t, r, api.ErrMiss)
		}
	}
}

// P8.1: Newest and Slots of whatever stands in the slots are as a list of all records tells.
func TestModel(t *testing.T) {
	rnd := rand.New(rand.NewSource(81))
	for range 400 {
		drives := 1 + rnd.Intn(6)
		r := build(t, drives, 9)
		var whole [16][8]label.Uber
		for range rnd.Intn(40) {
			drive, at, u := rnd.Intn(drives), rnd.Intn(9), uber(1+rnd.Intn(24), rnd.Intn(1000))
			switch {
			case rnd.Intn(4) == 0:
				r.Write(drive, at, bytes.Repeat([]byte{byte(rnd.Intn(256))}, 128))
				u = label.Uber{}
			default:
				if rnd.Intn(4) > 0 {
					at = u.Txg % 8
				}
				put(t, r, drive, at, u)
				if at != u.Txg%8 {
					u = label.Uber{}
				}
			}
			if at < 8 {
				whole[drive][at] = u
			}
		}
		lost := rnd.Intn(drives + 4)
		r.Lose(lost)
		var best label.Uber
		for drive := range drives {
			if drive == lost {
				noSlots(t, r, drive, api.ErrGone)
				continue
			}
			must := make([]int, 8)
			for at, u := range whole[drive] {
				must[at] = u.Txg
				if u.Txg == 0 {
					must[at] = -1
				}
				if u.Txg > best.Txg {
					best = u
				}
			}
			slots(t, r, drive, must...)
		}
		if best.Txg == 0 {
			lacks(t, r, api.ErrMiss)
		} else {
			newest(t, r, best)
		}
	}
}
