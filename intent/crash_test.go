package intent_test

import (
	"bytes"
	"math/rand"
	"slices"
	"testing"

	"hoard/api"
	"hoard/intent"
	"hoard/rack"
)

// run appends texts behind a base, flushing now and then, till the power goes off or all is done: what was appended, and how much of that when the rack was last flushed.
func run(t *testing.T, r *rack.Rack, l *intent.Log, rnd *rand.Rand) (done []string, lasts int) {
	t.Helper()
	for range 8 {
		s := anyText(rnd, []int{3, 60, 200}[rnd.Intn(3)])
		e := l.Append(s)
		if e == api.ErrSpace {
			break
		}
		done = append(done, s)
		if e == api.ErrDown {
			return done, lasts
		}
		want(t, "Append", e, api.OK)
		if rnd.Intn(3) == 0 {
			if e := r.Flush(); e == api.ErrDown {
				return done, lasts
			}
			lasts = len(done)
		}
	}
	return done, lasts
}

// hurts loses, replaces or rots all drives but one.
func hurts(r *rack.Rack, rnd *rand.Rand, first int) {
	whole := rnd.Intn(r.Drives())
	for drive := range r.Drives() {
		if drive == whole {
			continue
		}
		switch rnd.Intn(4) {
		case 0:
			r.Lose(drive)
		case 1:
			r.Replace(drive)
		case 2:
			for range 1 + rnd.Intn(40) {
				r.Rot(drive, first+rnd.Intn(20), rnd.Intn(100000))
			}
		}
	}
}

// P13.2, P13.3: behind a crash at any write, with any picks, and with drives lost, rotten or replaced, the first ones stand there, at least those that were flushed, and none of another base.
func TestCrash(t *testing.T) {
	rnd := rand.New(rand.NewSource(132))
	for range 1500 {
		r := build(t, 1+rnd.Intn(5), 30)
		first, base := rnd.Intn(10), rnd.Intn(5)
		l := opens(t, r, first, 20, base)
		var done []string
		for rounds := rnd.Intn(3); rounds >= 0; rounds-- {
			if rounds == 0 && rnd.Intn(2) == 0 {
				r.Arm(rnd.Intn(60))
			}
			var lasts int
			done, lasts = run(t, r, l, rnd)
			if rounds > 0 {
				base += 1 + rnd.Intn(3)
				want(t, "Reset", l.Reset(base), api.OK)
				continue
			}
			crash(r, rnd)
			hurts(r, rnd, first)
			_, all, e := intent.Open(r, first, 20, base)
			if k := len(all); e != api.OK || k < lasts || k > len(done) || !slices.Equal(all, done[:k]) {
				t.Fatalf("%q, %d, of %q, %d flushed", all, e, done, lasts)
			}
			if _, all, e := intent.Open(r, first, 20, base+1); len(all) > 0 || e != api.OK {
				t.Fatalf("%q, %d", all, e)
			}
		}
	}
}

// crash crashes with any picks.
func crash(r *rack.Rack, rnd *rand.Rand) {
	picks := make([]int, rnd.Intn(r.Pending()+1))
	for i := range picks {
		picks[i] = rnd.Intn(5) - 2
	}
	r.Crash(picks)
}

// P13.2: each crash of two intents, of which the second has two pieces, on two drives: the first alone was flushed, or none.
func TestEachPick(t *testing.T) {
	all := []string{"a", long(57)}
	for picks := range 1 << 6 {
		for flushed := range 2 {
			r := build(t, 2, 10)
			l := opens(t, r, 0, 10, 1)
			appends(t, l, all[0])
			if flushed == 1 {
				flush(t, r)
			}
			appends(t, l, all[1])
			kept := make([]int, 6)
			for i := range kept {
				kept[i] = picks >> i & 1
			}
			r.Crash(kept[2*flushed:])
			one := flushed == 1 || kept[0]+kept[1] > 0
			two := one && kept[2]+kept[3] > 0 && kept[4]+kept[5] > 0
			switch {
			case two:
				opens(t, r, 0, 10, 1, all...)
			case one:
				opens(t, r, 0, 10, 1, all[0])
			default:
				opens(t, r, 0, 10, 1)
			}
		}
	}
}

// P13.2: a log that is opened behind a crash goes on; so does one behind a lost drive.
func TestGoOn(t *testing.T) {
	r := build(t, 5, 30)
	l := opens(t, r, 8, 20, 7)
	appends(t, l, "a", long(60))
	flush(t, r)
	r.Crash(nil)
	l = opens(t, r, 8, 20, 7, "a", long(60))
	r.Lose(0)
	appends(t, l, "b")
	flush(t, r)
	for drive := range 4 {
		r.Lose(drive)
	}
	appends(t, l, "c")
	flush(t, r)
	r.Replace(0)
	appends(t, l, "d")
	flush(t, r)
	if !bytes.Equal(reads(t, r, 0, 8+5), sector(7, 5, 1, "d")) {
		t.Error("a new drive isn't written to")
	}
	opens(t, r, 8, 20, 7, "a", long(60), "b", "c", "d")
}

// P13.3: logs behind many bases in one place: each tells its own alone, all of them or, where newer ones took their place, none.
func TestBases(t *testing.T) {
	r := build(t, 3, 12)
	l := opens(t, r, 0, 12, 0)
	texts := make([][]string, 45)
	for base := 1; base <= 40; base++ {
		want(t, "Reset", l.Reset(base), api.OK)
		for i := range base % 7 {
			texts[base] = append(texts[base], long(base*i%90))
		}
		appends(t, l, texts[base]...)
		for other := range texts {
			_, all, e := intent.Open(r, 0, 12, other)
			if e != api.OK || !slices.Equal(all, texts[other]) && (len(all) > 0 || other >= base) {
				t.Fatalf("%d, of %d: %q, %d", base, other, all, e)
			}
		}
		if base%3 == 0 {
			flush(t, r)
		}
	}
}
