package rack_test

import (
	"bytes"
	"math"
	"testing"

	"hoard/api"
	"hoard/rack"
)

// fill is a sector's bytes, all of them c.
func fill(c byte) []byte {
	return bytes.Repeat([]byte{c}, api.Sector)
}

// build is a new rack.
func build(t *testing.T, drives, sectors int) *rack.Rack {
	t.Helper()
	r, e := rack.New(drives, sectors)
	if e != api.OK || r == nil {
		t.Fatal("New", drives, sectors, e)
	}
	return r
}

// want holds an error against the one that must be.
func want(t *testing.T, what string, got, must api.Errno) {
	t.Helper()
	if got != must {
		t.Errorf("%s: error %d, not %d", what, got, must)
	}
}

// holds asks whether all bytes of a sector are c.
func holds(t *testing.T, r *rack.Rack, drive, at int, c byte) {
	t.Helper()
	b, e := r.Read(drive, at)
	if e != api.OK || !bytes.Equal(b, fill(c)) {
		t.Errorf("sector %d of drive %d: %v %d, not all %d", at, drive, b, e, c)
	}
}

// refuses asks whether a Read answers this error, and no bytes.
func refuses(t *testing.T, r *rack.Rack, drive, at int, must api.Errno) {
	t.Helper()
	if b, e := r.Read(drive, at); len(b) != 0 || e != must {
		t.Errorf("Read(%d, %d) = %v, %d, not %d", drive, at, b, e, must)
	}
}

// P1.1: New takes 1 to 16 drives of 1 to 2000 sectors.
func TestNewLimits(t *testing.T) {
	for _, c := range [][2]int{{1, 1}, {1, 2000}, {16, 1}, {16, 2000}, {5, 400}} {
		r := build(t, c[0], c[1])
		if r.Drives() != c[0] || r.Sectors() != c[1] {
			t.Error(c, r.Drives(), r.Sectors())
		}
		holds(t, r, c[0]-1, c[1]-1, 0)
	}
	for _, c := range [][2]int{
		{0, 1}, {17, 1}, {-1, 1}, {1, 0}, {1, 2001}, {1, -1}, {0, 0}, {17, 2001},
		{math.MinInt, 1}, {math.MaxInt, 1}, {1, math.MinInt}, {1, math.MaxInt},
	} {
		if r, e := rack.New(c[0], c[1]); r != nil || e != api.ErrArg {
			t.Error(c, r, e)
		}
	}
}

// P1.1: how a new rack is.
func TestNewState(t *testing.T) {
	r := build(t, 3, 4)
	for drive := range 3 {
		if r.Gone(drive) {
			t.Error("gone:", drive)
		}
		for at := range 4 {
			holds(t, r, drive, at, 0)
		}
	}
	if r.Pending() != 0 {
		t.Error(r.Pending())
	}
	for range 100 { // it isn't armed
		want(t, "Write", r.Write(0, 0, fill(1)), api.OK)
		want(t, "Flush", r.Flush(), api.OK)
	}
}

// P1.1: what is read is the last write that waits, or what lasts.
func TestReadNewest(t *testing.T) {
	r := build(t, 2, 2)
	want(t, "Write", r.Write(1, 0, fill(1)), api.OK)
	want(t, "Flush", r.Flush(), api.OK)
	want(t, "Write", r.Write(1, 0, fill(2)), api.OK)
	want(t, "Write", r.Write(1, 1, fill(3)), api.OK)
	want(t, "Write", r.Write(1, 0, fill(4)), api.OK)
	if r.Pending() != 3 {
		t.Error("Pending", r.Pending())
	}
	holds(t, r, 1, 0, 4)
	holds(t, r, 1, 1, 3)
	holds(t, r, 0, 0, 0)
	holds(t, r, 0, 1, 0)
	r.Crash(nil)
	holds(t, r, 1, 0, 1)
	holds(t, r, 1, 1, 0)
}

// P1.1: a Flush makes the writes last in their order, those of all drives.
func TestFlush(t *testing.T) {
	r := build(t, 2, 2)
	want(t, "Flush of nothing", r.Flush(), api.OK)
	r.Write(0, 0, fill(1))
	r.Write(1, 1, fill(2))
	r.Write(0, 0, fill(3))
	want(t, "Flush", r.Flush(), api.OK)
	if r.Pending() != 0 {
		t.Error("Pending", r.Pending())
	}
	r.Crash(nil)
	holds(t, r, 0, 0, 3)
	holds(t, r, 1, 1, 2)
	holds(t, r, 0, 1, 0)
}

// P1.1: which picks keep a write.
func TestCrashPicks(t *testing.T) {
	for _, c := range []struct {
		pick int
		kept bool
	}{
		{0, false}, {1, true}, {2, false}, {3, true}, {-1, true}, {-2, false}, {-3, true},
		{math.MaxInt, true}, {math.MinInt, false},
	} {
		r := build(t, 1, 1)
		r.Write(0, 0, fill(7))
		r.Crash([]int{c.pick})
		if c.kept {
			holds(t, r, 0, 0, 7)
		} else {
			holds(t, r, 0, 0, 0)
		}
		if r.Pending() != 0 {
			t.Error("Pending", r.Pending())
		}
	}
}

// P1.1: the i-th pick is the i-th write's, of whichever drive; where there is none it is 0; more of them count for nothing.
func TestCrashOrder(t *testing.T) {
	write := func() *rack.Rack {
		r := build(t, 2, 2)
		r.Write(1, 0, fill(1))
		r.Write(0, 0, fill(2))
		r.Write(1, 0, fill(3))
		r.Write(0, 1, fill(4))
		return r
	}
	for _, c := range []struct {
		picks         []int
		d00, d01, d10 byte
	}{
		{nil, 0, 0, 0},
		{[]int{1}, 0, 0, 1},
		{[]int{0, 1}, 2, 0, 0},
		{[]int{1, 0, 1}, 0, 0, 3},
		{[]int{0, 0, 1}, 0, 0, 3},
		{[]int{1, 1, 0, 1}, 2, 4, 1},
		{[]int{0, 0, 0, 1, 1, 1}, 0, 4, 0},
	} {
		r := write()
		r.Crash(c.picks)
		holds(t, r, 0, 0, c.d00)
		holds(t, r, 0, 1, c.d01)
		holds(t, r, 1, 0, c.d10)
		holds(t, r, 1, 1, 0)
	}
}

// P1.2: what was flushed stands behind crashes with any picks, until it is written anew.
func TestFlushedLasts(t *testing.T) {
	r := build(t, 3, 2)
	r.Write(0, 1, fill(9))
	r.Flush()
	for _, picks := range [][]int{nil, {1, 1}, {0, 1}, {1, 0}} {
		r.Write(0, 0, fill(5))
		r.Write(1, 1, fill(6))
		r.Crash(picks)
		holds(t, r, 0, 1, 9)
		r.Arm(0)
		want(t, "Write", r.Write(0, 1, fill(8)), api.ErrDown)
		r.Crash([]int{1})
		holds(t, r, 0, 1, 9)
		r.Lose(1)
		r.Replace(2)
		r.Replace(1)
		holds(t, r, 0, 1, 9)
		r.Write(0, 1, fill(8))
		holds(t, r, 0, 1, 8)
		r.Crash([]int{0})
		holds(t, r, 0, 1, 9)
	}
	r.Write(0, 1, fill(8))
	r.Crash([]int{1})
	holds(t, r, 0, 1, 8)
}

// P1.1: the order of errors: no such thing, then a drive that is gone, then the power.
func TestErrorOrder(t *testing.T) {
	r := build(t, 2, 3)
	r.Lose(1)
	check := func(off bool) {
		there := api.OK
		if off {
			there = api.ErrDown
		}
		for _, p := range [][2]int{
			{-1, 0}, {2, 0}, {0, -1}, {0, 3}, {1, -1}, {1, 3}, {-1, -1},
			{math.MaxInt, 0}, {math.MinInt, 0}, {0, math.MaxInt}, {0, math.MinInt},
		} {
			refuses(t, r, p[0], p[1], api.ErrArg)
			want(t, "Write of no sector", r.Write(p[0], p[1], fill(1)), api.ErrArg)
			want(t, "Rot of no sector", r.Rot(p[0], p[1], 0), api.ErrArg)
		}
		for _, n := range []int{0, 1, 127, 129, 256} {
			want(t, "Write of a wrong count", r.Write(0, 0, make([]byte, n)), api.ErrArg)
			want(t, "Write of a wrong count", r.Write(1, 0, make([]byte, n)), api.ErrArg)
		}
		want(t, "Write of nil", r.Write(0, 0, nil), api.ErrArg)
		for _, n := range []int{-1, math.MinInt} {
			want(t, "Rot below 0", r.Rot(0, 0, n), api.ErrArg)
			want(t, "Rot below 0", r.Rot(1, 0, n), api.ErrArg)
		}
		refuses(t, r, 1, 0, api.ErrGone)
		want(t, "Write", r.Write(1, 0, fill(1)), api.ErrGone)
		want(t, "Rot", r.Rot(1, 0, 0), api.ErrGone)
		_, e := r.Read(0, 0)
		want(t, "Read", e, there)
		want(t, "Write", r.Write(0, 0, fill(1)), there)
		want(t, "Flush", r.Flush(), there)
		want(t, "Rot", r.Rot(0, 0, 0), api.OK)
	}
	check(false)
	r.Arm(0)
	want(t, "Flush", r.Flush(), api.ErrDown)
	check(true)
}

// P1.1: a call that is refused has changed nothing.
func TestRefusedChangesNothing(t *testing.T) {
	r := build(t, 2, 2)
	r.Write(0, 0, fill(1))
	r.Lose(1)
	r.Write(0, 0, fill(2)[:127])
	r.Write(0, 2, fill(2))
	r.Write(1, 0, fill(2))
	r.Rot(0, 0, -1)
	r.Rot(1, 0, 3)
	r.Lose(2)
	r.Lose(-1)
	r.Replace(2)
	r.Replace(-1)
	if r.Pending() != 1 || r.Gone(0) || !r.Gone(1) {
		t.Error(r.Pending(), r.Gone(0), r.Gone(1))
	}
	holds(t, r, 0, 0, 1)
	r.Arm(0)
	r.Write(0, 1, fill(3))
	r.Write(0, 1, fill(3))
	if r.Pending() != 1 {
		t.Error("Pending", r.Pending())
	}
	r.Crash([]int{1, 1, 1})
	holds(t, r, 0, 0, 1)
	holds(t, r, 0, 1, 0)
}

// P1.3: neither is b kept, nor does a Read hand out what is kept; lists that are handed in stay as they are.
func TestMemory(t *testing.T) {
	r := build(t, 1, 2)
	room := make([]byte, 2*api.Sector)
	for i := range room {
		room[i] = byte(i)
	}
	was := bytes.Clone(room)
	b := room[:api.Sector]
	r.Write(0, 0, b)
	waits, _ := r.Read(0, 0)
	r.Rot(0, 0, 3)
	r.Flush()
	if !bytes.Equal(room, was) || !bytes.Equal(waits, was[:api.Sector]) {
		t.Error("Rot changed what was handed in or out")
	}
	r.Rot(0, 0, 3)
	for i := range b {
		b[i] = 99
	}
	for range 2 { // waiting, then lasting, then again
		got, _ := r.Read(0, 0)
		if !bytes.Equal(got, was[:api.Sector]) {
			t.Error(got)
		}
		for i := range got {
			got[i] = 77
		}
	}
	r.Write(0, 1, fill(5))
	got, _ := r.Read(0, 1)
	got[0] = 6
	holds(t, r, 0, 1, 5)
	picks := []int{1, 5, 6}
	r.Crash(picks[:1])
	if picks[0] != 1 || picks[1] != 5 || picks[2] != 6 {
		t.Error(picks)
	}
	holds(t, r, 0, 1, 5)
	one, _ := r.Read(0, 1)
	two, _ := r.Read(0, 1)
	one[0] = 1
	if two[0] != 5 {
		t.Error("two answers share memory")
	}
	if c := cap(two); c > len(two) { // spare room is new memory too
		two[:c][c-1] = 9
		holds(t, r, 0, 1, 5)
	}
}

// P1: a nil rack, and one that New didn't make.
func TestNil(t *testing.T) {
	var none *rack.Rack
	for _, r := range []*rack.Rack{none, {}} {
		if r.Drives() != 0 || r.Sectors() != 0 || r.Pending() != 0 || r.Gone(0) || r.Gone(-1) {
			t.Error("a number that isn't 0")
		}
		r.Arm(3)
		r.Arm(-1)
		r.Crash([]int{1})
		r.Crash(nil)
		refuses(t, r, 0, 0, api.ErrArg)
		want(t, "Write", r.Write(0, 0, fill(1)), api.ErrArg)
		want(t, "Lose", r.Lose(0), api.ErrArg)
		want(t, "Replace", r.Replace(0), api.ErrArg)
		want(t, "Rot", r.Rot(0, 0, 0), api.ErrArg)
	}
	want(t, "Flush", none.Flush(), api.ErrArg)
}

// The chapter's examples.
func TestExamples(t *testing.T) {
	r := build(t, 2, 3)
	r.Write(0, 1, fill('a'))
	r.Write(1, 1, fill('b'))
	r.Crash([]int{0, 1})
	holds(t, r, 0, 1, 0)
	holds(t, r, 1, 1, 'b')
	r.Write(0, 0, fill('a'))
	r.Flush()
	r.Lose(0)
	refuses(t, r, 0, 0, api.ErrGone)
	r.Replace(0)
	holds(t, r, 0, 0, 0)
	r.Rot(1, 1, 5)
	b, _ := r.Read(1, 1)
	must := fill('b')
	must[5] ^= 1
	if !bytes.Equal(b, must) {
		t.Error(b)
	}
	r.Rot(1, 1, 133)
	b, _ = r.Read(1, 1)
	must[5] ^= 2
	if !bytes.Equal(b, must) {
		t.Error(b)
	}

	r = build(t, 2, 3)
	r.Arm(1)
	want(t, "Write", r.Write(0, 0, fill('a')), api.OK)
	want(t, "Flush", r.Flush(), api.ErrDown)
	refuses(t, r, 0, 0, api.ErrDown)
	r.Crash([]int{1})
	holds(t, r, 0, 0, 'a')
}
