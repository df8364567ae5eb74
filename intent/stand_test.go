package intent_test

import (
	"bytes"
	"math/rand"
	"slices"
	"testing"

	"hoard/api"
	"hoard/intent"
	"hoard/rack"
)

// P13.1: sectors that are no pieces, or not those that belong there.
func TestNoPieces(t *testing.T) {
	good := sector(3, 1, 1, "x")
	for i, b := range [][]byte{
		make([]byte, 128), bytes.Repeat([]byte{255}, 128), sealed(),
		sector(2, 1, 1, "x"), sector(4, 1, 1, "x"), sector(-3, 1, 1, "x"), sector(0, 1, 1, "x"),
		sector(3, 0, 1, "x"), sector(3, 2, 1, "x"), sector(3, -1, 1, "x"),
		sector(3, 1, 2, "x"), sector(3, 1, -1, "x"),
		sector(3, 1, 1, long(57)), sector(3, 1, 0, long(57)), sector(3, 1, 1, long(80)),
		sealed(num(54), num(3), num(1), num(1), word("x")), sealed(num(-55), num(3), num(1), num(1), word("x")),
		sealed(num(77), num(3), word("x")), sealed(num(55), num(3), num(1), num(1)), sealed(num(55), num(3), num(1), word("x")),
		sealed(num(55), num(3), num(1), num(1), word("x"), num(0)), sealed(num(55), num(3), num(1), num(1), word("x"), word("")),
		sealed(num(0), num(55), num(3), num(1), num(1), word("x")),
		sealed(word("7"), num(3), num(1), num(1), word("x")), sealed(num(55), word("3"), num(1), num(1), word("x")),
		sealed(num(55), num(3), word("1"), num(1), word("x")), sealed(num(55), num(3), num(1), word("1"), word("x")),
		sealed(num(55), num(3), num(1), word(""), word("x")), sealed(num(55), num(3), num(1), num(1), num(0)),
		sealed(num(55), num(3), num(1), num(1), num(7)), sealed(num(55), num(3), num(1), num(1), "\x03\x01x"),
		sealed(num(55), num(3), num(1), "\x01\x82\x00", word("x")), // a count with a byte too many
	} {
		r := build(t, 2, 10)
		puts(t, r, 0, 2, sector(3, 0, 1, "w"))
		puts(t, r, 1, 3, b)
		puts(t, r, 0, 4, sector(3, 2, 1, "y"))
		l := opens(t, r, 2, 6, 3, "w")
		told(t, l, 3, 5)
		puts(t, r, 1, 3, good)
		opens(t, r, 2, 6, 3, "w", "x", "y")
		if t.Failed() {
			t.Fatal(i)
		}
	}
	for i := range good {
		for _, turn := range []int{0, 1, 127, 254} {
			r := build(t, 2, 10)
			puts(t, r, 0, 2, sector(3, 0, 1, "w"))
			puts(t, r, 1, 3, good)
			opens(t, r, 2, 6, 3, "w", "x")
			r.Rot(1, 3, i+turn*api.Sector)
			opens(t, r, 2, 6, 3, "w")
		}
	}
}

// P13.1: what stands behind base 0: not what holds noughts, nor texts in the places of numbers.
func TestBaseNought(t *testing.T) {
	r := build(t, 1, 10)
	opens(t, r, 0, 10, 0)
	puts(t, r, 0, 0, sealed(num(55), word(""), word(""), num(1), word("x")))
	opens(t, r, 0, 10, 0)
	puts(t, r, 0, 0, sealed(num(55), num(0), num(0), num(1), word("x")))
	opens(t, r, 0, 10, 0, "x")
}

// P13.1: a piece needn't be full to have another one behind it, and the last one may be empty.
func TestShortPieces(t *testing.T) {
	r := build(t, 1, 10)
	for k, s := range []string{"a", "", long(56), "", "c", ""} {
		last := 0
		if k == 3 || k == 5 {
			last = 1
		}
		puts(t, r, 0, k, sector(9, k, last, s))
	}
	l := opensAs(t, r, 10, 9, 4, "a"+long(56), "c")
	appends(t, l, "d")
	opensAs(t, r, 10, 9, 3, "a"+long(56), "c", "d")
}

// opensAs is opens, of pieces that aren't cut as Append cuts.
func opensAs(t *testing.T, r *rack.Rack, count, base, room int, must ...string) *intent.Log {
	t.Helper()
	l, all, e := intent.Open(r, 0, count, base)
	if e != api.OK || !slices.Equal(all, must) {
		t.Fatalf("%q, %d, not %q", all, e, must)
	}
	told(t, l, base, room)
	return l
}

// P13.1: of several drives the least one's piece counts, as long as it is there; one that is gone has none.
func TestLeastDrive(t *testing.T) {
	r := build(t, 4, 10)
	for drive, s := range []string{"a", "b", "c", "d"} {
		puts(t, r, drive, 3, sector(3, 0, 1, s))
		puts(t, r, drive, 4, sector(3, 1, 1, s+s))
	}
	opens(t, r, 3, 6, 3, "a", "aa")
	r.Rot(0, 3, 70)
	opens(t, r, 3, 6, 3, "b", "aa")
	r.Lose(0)
	opens(t, r, 3, 6, 3, "b", "bb")
	r.Replace(0)
	opens(t, r, 3, 6, 3, "b", "bb")
	puts(t, r, 0, 4, sector(3, 1, 0, "half"))
	opens(t, r, 3, 6, 3, "b")
	puts(t, r, 1, 3, sector(2, 0, 1, "older"))
	puts(t, r, 0, 4, sector(4, 1, 1, "newer"))
	opens(t, r, 3, 6, 3, "c", "bb")
	opens(t, r, 3, 6, 2, "older")
	opens(t, r, 4, 6, 3)
	opens(t, r, 2, 6, 3)
}

// P13.1: pieces behind the last last one don't count: the log goes on in their place.
func TestBehindTheLast(t *testing.T) {
	r := build(t, 3, 30)
	l := opens(t, r, 5, 20, 3)
	appends(t, l, "a", long(60), long(300))
	for drive := range 3 {
		puts(t, r, drive, 5+8, make([]byte, 128)) // the last piece of long(300)
	}
	m := opens(t, r, 5, 20, 3, "a", long(60))
	told(t, m, 3, 17)
	appends(t, m, "b")
	opens(t, r, 5, 20, 3, "a", long(60), "b")
	// Where a piece lacks, those behind it don't count.
	for drive := range 3 {
		puts(t, r, drive, 5+1, make([]byte, 128))
	}
	opens(t, r, 5, 20, 3, "a")
	for drive := range 3 {
		puts(t, r, drive, 5, make([]byte, 128))
	}
	opens(t, r, 5, 20, 3)
}

// P13.1: the log ends where it ends, though pieces stand there behind it.
func TestEnd(t *testing.T) {
	r := build(t, 2, 30)
	appends(t, opens(t, r, 5, 20, 3), "a", "b", long(112), "c")
	opens(t, r, 5, 2, 3, "a", "b")
	opens(t, r, 5, 3, 3, "a", "b")
	opens(t, r, 5, 4, 3, "a", "b", long(112))
	opens(t, r, 5, 5, 3, "a", "b", long(112), "c")
}

// held is what a sector is held to hold in the model: a piece, or none (number -1).
type held struct {
	base, number, last int
	text               string
}

// standing tells, as plainly as the chapter does, what stands there, and how many pieces that is. A drive without sectors is gone.
func standing(drives [][]held, count, base int) (all []string, used int) {
	text := ""
	for k := range count {
		i := slices.IndexFunc(drives, func(l []held) bool { return len(l) > 0 && l[k].base == base && l[k].number == k })
		if i < 0 {
			break
		}
		text += drives[i][k].text
		if drives[i][k].last == 1 {
			all, text, used = append(all, text), "", k+1
		}
	}
	return all, used
}

// P13.1, P13.3: whatever stands on the drives, Open tells what the model does.
func TestStandingModel(t *testing.T) {
	rnd := rand.New(rand.NewSource(13))
	for range 600 {
		r := build(t, 3, 12)
		const count = 9
		drives := make([][]held, 3)
		for drive := range drives {
			for k := range count {
				h := held{rnd.Intn(2), k, min(1, rnd.Intn(3)), anyText(rnd, 56)}
				b := sector(h.base, h.number, h.last, h.text)
				switch rnd.Intn(6) {
				case 0:
					h.number, b = -1, bytes.Repeat([]byte{byte(rnd.Intn(256))}, 128)
				case 1:
					h.number++
					b = sector(h.base, h.number, h.last, h.text)
				}
				puts(t, r, drive, 2+k, b)
				drives[drive] = append(drives[drive], h)
			}
		}
		if lost := rnd.Intn(6); lost < 3 {
			r.Lose(lost)
			drives[lost] = nil
		}
		for base := range 3 {
			must, used := standing(drives, count, base)
			l, all, e := intent.Open(r, 2, count, base)
			if e != api.OK || !slices.Equal(all, must) || l.Room() != count-used || l.Base() != base {
				t.Fatalf("%q, %d, not %q", all, e, must)
			}
		}
	}
}
