package intent_test

import (
	"bytes"
	"math"
	"slices"
	"strings"
	"testing"

	"hoard/api"
	"hoard/intent"
	"hoard/rack"
)

// The chapter's examples.
func TestExamples(t *testing.T) {
	r := build(t, 5, 18)
	l := opens(t, r, 8, 10, 3)
	two := []string{"abc", long(57)}
	appends(t, l, two...)
	told(t, l, 3, 7)
	flush(t, r)
	r.Crash(nil)
	opens(t, r, 8, 10, 3, two...)
	opens(t, r, 8, 10, 4)
	if intent.Need("") != 1 || intent.Need(long(56)) != 1 || intent.Need(long(57)) != 2 {
		t.Error("Need")
	}
	want(t, "Reset", l.Reset(3), api.ErrArg)
}

// P13.1: how many sectors intents need.
func TestNeed(t *testing.T) {
	for n := range 600 {
		if s := long(n); intent.Need(s) != pieces(s) {
			t.Error(n, intent.Need(s))
		}
	}
	for n, must := range map[int]int{28000: 500, 28001: 501, 1 << 22: 1<<22/56 + 1} {
		if k := intent.Need(strings.Repeat("x", n)); k != must {
			t.Error(n, k)
		}
	}
}

// P13.1: the pieces of intents, byte by byte, on all drives that aren't gone, from drive 0 on, piece by piece, and nowhere else; no flush.
func TestPieces(t *testing.T) {
	for _, n := range []int{0, 1, 55, 56, 57, 111, 112, 113, 168, 169} {
		s := long(n)
		r := build(t, 4, 12)
		want(t, "Lose", r.Lose(2), api.OK)
		l := opens(t, r, 3, 8, 1<<50)
		appends(t, l, "first", s)
		if r.Pending() != 3*(1+pieces(s)) {
			t.Error(n, r.Pending())
		}
		for _, drive := range []int{0, 1, 3} {
			for at := range 12 {
				must := make([]byte, api.Sector)
				switch k := at - 3; {
				case k == 0:
					must = sector(1<<50, 0, 1, "first")
				case k > 0 && k < pieces(s):
					must = sector(1<<50, k, 0, s[56*(k-1):56*k])
				case k > 0 && k == pieces(s):
					must = sector(1<<50, k, 1, s[56*(k-1):])
				}
				if b := reads(t, r, drive, at); !bytes.Equal(b, must) {
					t.Errorf("%d bytes: drive %d, sector %d: %q, not %q", n, drive, at, b, must)
				}
			}
		}
	}
}

// P13.1: in which order the pieces are written: of a crash that keeps one write alone.
func TestOrder(t *testing.T) {
	for n := range 9 {
		r := build(t, 3, 12)
		appends(t, opens(t, r, 1, 8, 7), long(150))
		picks := make([]int, 9)
		picks[n] = 1
		r.Crash(picks)
		for drive := range 3 {
			for k := range 3 {
				there := !bytes.Equal(reads(t, r, drive, 1+k), make([]byte, api.Sector))
				if there != (n == 3*k+drive) {
					t.Error(n, drive, k)
				}
			}
		}
	}
}

// P13.1: Open's numbers to their ends, and beyond.
func TestOpenArguments(t *testing.T) {
	for _, sectors := range []int{1, 9, 499, 500, 501, 2000} {
		r := build(t, 2, sectors)
		firsts := []int{math.MinInt, -1, 0, 1, 8, sectors - 2, sectors - 1, sectors, sectors + 1, math.MaxInt - 1, math.MaxInt}
		counts := []int{math.MinInt, -1, 0, 1, 2, 499, 500, 501, sectors - 1, sectors, sectors + 1, math.MaxInt - 1, math.MaxInt}
		bases := []int{math.MinInt, -1, 0, 1, 1<<50 - 1, 1 << 50, 1<<50 + 1, math.MaxInt}
		for _, first := range firsts {
			for _, count := range counts {
				for _, base := range bases {
					ok := first >= 0 && count >= 1 && count <= 500 && first <= sectors && first+count <= sectors && base >= 0 && base <= 1<<50
					refuses(t, nil, first, count, base, api.ErrArg)
					refuses(t, &rack.Rack{}, first, count, base, api.ErrArg)
					if ok {
						opens(t, r, first, count, base)
					} else {
						refuses(t, r, first, count, base, api.ErrArg)
					}
				}
			}
		}
	}
}

// P13.1: without power Open refuses, behind all that is wrong else, as long as a drive isn't gone.
func TestOpenDown(t *testing.T) {
	r := build(t, 3, 10)
	appends(t, opens(t, r, 2, 8, 4), "a", "b")
	flush(t, r)
	for lost := range 3 {
		off(r)
		refuses(t, r, 2, 8, 4, api.ErrDown)
		refuses(t, r, 2, 8, 5, api.ErrDown)
		refuses(t, r, 2, 9, 4, api.ErrArg)
		refuses(t, r, 2, 8, -1, api.ErrArg)
		r.Crash(nil)
		opens(t, r, 2, 8, 4, "a", "b")
		r.Lose(lost)
	}
	opens(t, r, 2, 8, 4)
	off(r)
	want(t, "Append", opens(t, r, 2, 8, 4).Append("a"), api.ErrIO)
	r.Replace(2)
	refuses(t, r, 2, 8, 4, api.ErrDown)
}

// P13.1: an intent of as many pieces as there is room for; one more.
func TestRoom(t *testing.T) {
	for _, count := range []int{1, 2, 3, 10, 500} {
		r := build(t, 2, 510)
		l := opens(t, r, 5, count, 1)
		want(t, "Append", l.Append(long(56*count+1)), api.ErrBig)
		told(t, l, 1, count)
		appends(t, l, long(56*count))
		want(t, "Append", l.Append(""), api.ErrSpace)
		want(t, "Append", l.Append(long(56*count)), api.ErrSpace)
		want(t, "Append", l.Append(long(56*count+1)), api.ErrBig)
		told(t, l, 1, 0)
		if r.Pending() != 2*count {
			t.Error(r.Pending())
		}
		flush(t, r)
		r.Crash(nil)
		opens(t, r, 5, count, 1, long(56*count))
		m := opens(t, r, 5, count, 2)
		for range count {
			appends(t, m, "")
		}
		want(t, "Append", m.Append("x"), api.ErrSpace)
		if _, e := r.Read(0, 5+count); e != api.OK || !bytes.Equal(reads(t, r, 0, 5+count), make([]byte, api.Sector)) {
			t.Error("a sector behind the log changed")
		}
	}
}

// P13.1: Append's errors, in their order; what is refused has changed nothing.
func TestAppendErrors(t *testing.T) {
	r := build(t, 3, 10)
	l := opens(t, r, 0, 4, 1)
	appends(t, l, "a", "b")
	for range 2 {
		want(t, "Append", l.Append(long(56*4+1)), api.ErrBig)
		want(t, "Append", l.Append(long(56*2+1)), api.ErrSpace)
		told(t, l, 1, 2)
		off(r)
	}
	want(t, "Append", l.Append("c"), api.ErrDown)
	told(t, l, 1, 2)
	r.Lose(0)
	r.Lose(2)
	want(t, "Append", l.Append("c"), api.ErrDown)
	r.Lose(1)
	for range 2 {
		want(t, "Append", l.Append(long(56*4+1)), api.ErrBig)
		want(t, "Append", l.Append(long(56*2+1)), api.ErrSpace)
		want(t, "Append", l.Append("c"), api.ErrIO)
		told(t, l, 1, 2)
		r.Crash(nil)
	}
	r.Replace(1)
	appends(t, l, "c")
	told(t, l, 1, 1)
	if !bytes.Equal(reads(t, r, 1, 2), sector(1, 2, 1, "c")) || r.Pending() != 1 {
		t.Error(r.Pending())
	}
}

// P13.1: the power goes off at each write of an Append: ErrDown, and Room as it was; those ahead of it were made.
func TestAppendDown(t *testing.T) {
	for _, lost := range []int{-1, 0, 1, 2} {
		drives := slices.DeleteFunc([]int{0, 1, 2}, func(drive int) bool { return drive == lost })
		writes := 3 * len(drives)
		for n := range writes + 1 {
			r := build(t, 3, 12)
			l := opens(t, r, 2, 9, 6)
			appends(t, l, "a")
			flush(t, r)
			r.Lose(lost)
			r.Arm(n)
			if n == writes {
				appends(t, l, long(150))
				continue
			}
			want(t, "Append", l.Append(long(150)), api.ErrDown)
			told(t, l, 6, 8)
			r.Crash(slices.Repeat([]int{1}, writes))
			for i := range writes {
				k := 1 + i/len(drives)
				there := bytes.Equal(reads(t, r, drives[i%len(drives)], 2+k), sector(6, k, k/3, long(150)[56*(k-1):min(56*k, 150)]))
				if there != (i < n) {
					t.Error(lost, n, i)
				}
			}
		}
	}
}

// P13.1, P13.3: Reset's numbers; behind it none of the older pieces count.
func TestReset(t *testing.T) {
	r := build(t, 2, 20)
	l := opens(t, r, 4, 6, 10)
	appends(t, l, "a", long(100), "b")
	for _, base := range []int{math.MinInt, -1, 0, 9, 10, 1<<50 + 1, math.MaxInt} {
		want(t, "Reset", l.Reset(base), api.ErrArg)
		told(t, l, 10, 2)
	}
	n := r.Pending()
	want(t, "Reset", l.Reset(11), api.OK)
	told(t, l, 11, 6)
	if r.Pending() != n {
		t.Error("Reset writes")
	}
	opens(t, r, 4, 6, 10, "a", long(100), "b")
	opens(t, r, 4, 6, 11)
	appends(t, l, "c")
	opens(t, r, 4, 6, 11, "c")
	opens(t, r, 4, 6, 10)
	want(t, "Reset", l.Reset(1<<50), api.OK)
	told(t, l, 1<<50, 6)
	appends(t, l, "d", "e")
	want(t, "Reset", l.Reset(1<<50), api.ErrArg)
	told(t, l, 1<<50, 4)
	opens(t, r, 4, 6, 1<<50, "d", "e")
	opens(t, r, 4, 6, 11)
}

// P13.1, P1: a log that is none.
func TestNil(t *testing.T) {
	for _, l := range []*intent.Log{nil, {}} {
		told(t, l, 0, 0)
		for _, s := range []string{"", "a", long(60000)} {
			want(t, "Append", l.Append(s), api.ErrArg)
		}
		for _, n := range []int{math.MinInt, 0, 1, math.MaxInt} {
			want(t, "Reset", l.Reset(n), api.ErrArg)
		}
		told(t, l, 0, 0)
	}
}

// P13.4: a list that is answered is new memory.
func TestMemory(t *testing.T) {
	r := build(t, 2, 20)
	l := opens(t, r, 0, 20, 0)
	appends(t, l, "a", long(200), "")
	_, one, _ := intent.Open(r, 0, 20, 0)
	_, two, _ := intent.Open(r, 0, 20, 0)
	clear(one[:cap(one)])
	if !slices.Equal(two, []string{"a", long(200), ""}) {
		t.Errorf("%q", two)
	}
	opens(t, r, 0, 20, 0, "a", long(200), "")
}
