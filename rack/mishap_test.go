package rack_test

import (
	"bytes"
	"math"
	"testing"

	"hoard/api"
)

// P1.1: an armed rack carries out so many writes and flushes.
func TestArmCounts(t *testing.T) {
	for n := range 6 {
		r := build(t, 1, 2)
		r.Arm(n)
		for k := range n {
			if k%2 == 0 {
				want(t, "Write", r.Write(0, 0, fill(byte(k+1))), api.OK)
			} else {
				want(t, "Flush", r.Flush(), api.OK)
			}
			holds(t, r, 0, 0, byte(k/2*2+1))
		}
		waits := r.Pending()
		if n%3 == 0 {
			want(t, "Write", r.Write(0, 1, fill(50)), api.ErrDown)
		} else {
			want(t, "Flush", r.Flush(), api.ErrDown)
		}
		if r.Pending() != waits {
			t.Error("Pending", r.Pending(), "not", waits)
		}
		refuses(t, r, 0, 0, api.ErrDown)
		want(t, "Write", r.Write(0, 1, fill(50)), api.ErrDown)
		want(t, "Flush", r.Flush(), api.ErrDown)
		r.Crash([]int{1, 1, 1, 1})
		holds(t, r, 0, 1, 0)
	}
}

// P1.1: a flush that isn't carried out makes nothing last.
func TestArmedFlushIsLost(t *testing.T) {
	r := build(t, 1, 1)
	r.Write(0, 0, fill(1))
	r.Arm(0)
	want(t, "Flush", r.Flush(), api.ErrDown)
	r.Crash([]int{0})
	holds(t, r, 0, 0, 0)
}

// P1.1: only a Write or Flush that would be carried out counts.
func TestArmCountsNoOthers(t *testing.T) {
	r := build(t, 2, 2)
	r.Lose(1)
	r.Arm(1)
	want(t, "Write", r.Write(1, 0, fill(1)), api.ErrGone)
	want(t, "Write", r.Write(0, 2, fill(1)), api.ErrArg)
	want(t, "Write", r.Write(0, 0, nil), api.ErrArg)
	want(t, "Rot", r.Rot(0, 0, 0), api.OK)
	want(t, "Rot", r.Rot(0, 0, 0), api.OK)
	want(t, "Lose", r.Lose(1), api.OK)
	holds(t, r, 0, 0, 0)
	want(t, "Write", r.Write(0, 0, fill(1)), api.OK)
	want(t, "Write of a lost drive", r.Write(1, 0, fill(1)), api.ErrGone)
	want(t, "Write of no bytes", r.Write(0, 0, nil), api.ErrArg)
	holds(t, r, 0, 0, 1) // the power is on still
	want(t, "Write", r.Write(0, 0, fill(2)), api.ErrDown)
	refuses(t, r, 0, 0, api.ErrDown)
}

// P1.1: what Arm and Crash do to the count and the power.
func TestArmAnew(t *testing.T) {
	for _, below := range []int{-1, -2, math.MinInt} {
		r := build(t, 1, 1)
		r.Arm(0)
		r.Arm(below)
		for range 10 {
			want(t, "Write", r.Write(0, 0, fill(1)), api.OK)
		}
	}
	r := build(t, 1, 1)
	r.Arm(math.MaxInt)
	want(t, "Write", r.Write(0, 0, fill(1)), api.OK)
	r.Arm(0)
	want(t, "Write", r.Write(0, 0, fill(2)), api.ErrDown)
	r.Arm(5) // brings no power back
	want(t, "Write", r.Write(0, 0, fill(2)), api.ErrDown)
	r.Arm(-1)
	want(t, "Flush", r.Flush(), api.ErrDown)
	r.Arm(0)
	r.Crash(nil)
	for range 10 { // the power is on, and it isn't armed
		want(t, "Write", r.Write(0, 0, fill(3)), api.OK)
		want(t, "Flush", r.Flush(), api.OK)
	}
	r.Arm(1)
	r.Crash(nil)
	for range 10 {
		want(t, "Write", r.Write(0, 0, fill(4)), api.OK)
	}
}

// P1.1: what Lose and Replace do to a drive, and to what waits.
func TestLoseAndReplace(t *testing.T) {
	for _, replace := range []bool{false, true} {
		r := build(t, 3, 2)
		for drive := range 3 {
			r.Write(drive, 0, fill(byte(drive+1)))
		}
		r.Flush()
		r.Write(0, 1, fill(11))
		r.Write(1, 1, fill(12))
		r.Write(2, 1, fill(13))
		r.Write(1, 0, fill(14))
		r.Write(2, 1, fill(15))
		if replace {
			want(t, "Replace", r.Replace(1), api.OK)
			holds(t, r, 1, 0, 0)
			holds(t, r, 1, 1, 0)
		} else {
			want(t, "Lose", r.Lose(1), api.OK)
			refuses(t, r, 1, 0, api.ErrGone)
		}
		if r.Gone(1) == replace || r.Gone(0) || r.Gone(2) || r.Pending() != 3 {
			t.Error(r.Gone(0), r.Gone(1), r.Gone(2), r.Pending())
		}
		holds(t, r, 0, 1, 11)
		holds(t, r, 2, 1, 15)
		r.Rot(2, 1, 0) // of the last write that waits for it, wherever it stands now
		r.Crash([]int{0, 1, 0})
		holds(t, r, 0, 0, 1)
		holds(t, r, 0, 1, 0)
		holds(t, r, 2, 0, 3)
		holds(t, r, 2, 1, 13)
		want(t, "Replace", r.Replace(1), api.OK)
		holds(t, r, 1, 0, 0)
		holds(t, r, 1, 1, 0)
	}
}

// P1.1: a drive may be lost twice, replaced though it is there, and both while the power is off.
func TestLoseAndReplaceAtAnyTime(t *testing.T) {
	r := build(t, 2, 1)
	r.Write(0, 0, fill(1))
	r.Write(1, 0, fill(2))
	r.Flush()
	r.Arm(0)
	want(t, "Flush", r.Flush(), api.ErrDown)
	want(t, "Lose", r.Lose(0), api.OK)
	want(t, "Lose again", r.Lose(0), api.OK)
	refuses(t, r, 0, 0, api.ErrGone)
	want(t, "Replace", r.Replace(0), api.OK)
	want(t, "Replace of one that is there", r.Replace(0), api.OK)
	refuses(t, r, 0, 0, api.ErrDown)
	r.Crash(nil)
	holds(t, r, 0, 0, 0)
	holds(t, r, 1, 0, 2)
	for _, drive := range []int{-1, 2, math.MaxInt, math.MinInt} {
		want(t, "Lose", r.Lose(drive), api.ErrArg)
		want(t, "Replace", r.Replace(drive), api.ErrArg)
		if r.Gone(drive) {
			t.Error("gone:", drive)
		}
	}
	r.Lose(1)
	r.Crash(nil)
	if !r.Gone(1) {
		t.Error("a crash brought a drive back")
	}
	r.Replace(1)
	want(t, "Write", r.Write(1, 0, fill(5)), api.OK)
	r.Flush()
	holds(t, r, 1, 0, 5)
}

// P1.1: which byte rots, and into what.
func TestRotByte(t *testing.T) {
	for _, c := range []struct {
		n, at int
		with  byte
	}{
		{0, 0, 1}, {5, 5, 1}, {127, 127, 1}, {128, 0, 2}, {133, 5, 2}, {255, 127, 2}, {256, 0, 3},
		{128 * 253, 0, 254}, {128*254 + 3, 3, 255}, {128*255 - 1, 127, 255}, {128 * 255, 0, 1}, {128*255 + 130, 2, 2},
		{math.MaxInt, 127, byte(1 + math.MaxInt/128%255)},
	} {
		r := build(t, 1, 1)
		must := fill(0xa5)
		r.Write(0, 0, must)
		r.Flush()
		want(t, "Rot", r.Rot(0, 0, c.n), api.OK)
		must[c.at] ^= c.with
		if b, _ := r.Read(0, 0); !bytes.Equal(b, must) {
			t.Error(c, b)
		}
		want(t, "Rot", r.Rot(0, 0, c.n), api.OK)
		holds(t, r, 0, 0, 0xa5)
	}
}

// P1.1: what rots is what Read would answer: the last write that waits, else the lasting bytes.
func TestRotWhere(t *testing.T) {
	rotten := func(c byte) []byte {
		b := fill(c)
		b[0] ^= 1
		return b
	}
	for _, c := range []struct {
		picks []int
		must  []byte
	}{
		{[]int{0, 0}, fill(1)},
		{[]int{1, 0}, fill(2)},
		{[]int{0, 1}, rotten(3)},
		{[]int{1, 1}, rotten(3)},
	} {
		r := build(t, 1, 2)
		r.Write(0, 0, fill(1))
		r.Flush()
		r.Write(0, 0, fill(2))
		r.Write(0, 0, fill(3))
		r.Rot(0, 0, 0)
		if b, _ := r.Read(0, 0); !bytes.Equal(b, rotten(3)) || r.Pending() != 2 {
			t.Error(b, r.Pending())
		}
		holds(t, r, 0, 1, 0)
		r.Crash(c.picks)
		if b, _ := r.Read(0, 0); !bytes.Equal(b, c.must) {
			t.Error(c.picks, b)
		}
	}
	r := build(t, 2, 2)
	want(t, "Rot of noughts", r.Rot(1, 1, 0), api.OK)
	if b, _ := r.Read(1, 1); !bytes.Equal(b, rotten(0)) || r.Pending() != 0 {
		t.Error(b, r.Pending())
	}
	r.Crash(nil) // what rots lasts
	if b, _ := r.Read(1, 1); !bytes.Equal(b, rotten(0)) {
		t.Error(b)
	}
	holds(t, r, 1, 0, 0)
	holds(t, r, 0, 1, 0)
	r.Write(1, 1, fill(4)) // until it is written anew
	holds(t, r, 1, 1, 4)
}

// P1.1: a sector rots though the power is off.
func TestRotWithoutPower(t *testing.T) {
	r := build(t, 1, 1)
	r.Write(0, 0, fill(1))
	r.Arm(0)
	r.Flush()
	want(t, "Rot", r.Rot(0, 0, 2), api.OK)
	r.Crash([]int{1})
	must := fill(1)
	must[2] ^= 1
	if b, e := r.Read(0, 0); e != api.OK || !bytes.Equal(b, must) {
		t.Error(b, e)
	}
}
