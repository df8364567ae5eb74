package pool_test

import (
	"math/rand"
	"slices"
	"testing"

	"hoard/api"
	"hoard/pool"
	"hoard/rack"
)

// picksOf are the picks of a crash with so many writes that wait, of some kind.
func picksOf(n, kind int, rnd *rand.Rand) []int {
	picks := make([]int, n)
	for i := range picks {
		switch kind {
		case 1:
			picks[i] = 1
		case 2:
			picks[i] = i % 2
		case 3:
			picks[i] = (i + 1) % 2
		case 4:
			picks[i] = rnd.Intn(2)
		case 5:
			picks[i] = -rnd.Intn(4) / 3
		}
	}
	return picks
}

// stands wants what is seen to be what was seen ahead of the first line that needn't last, or behind it, or behind one of the next, the one that was broken off among these.
func (b *bed) stands(t *testing.T, seen []string, done, lasts int) {
	t.Helper()
	if is := b.view(t); !slices.Contains(seen[lasts:min(done+2, len(seen))], is) {
		t.Fatalf("done %d, last %d:\n%.1500s", done, lasts, is)
	}
}

// P18.2, P3: a crash at every write of a script, with picks of several kinds, with drives that fail or without: what is there then is as it was behind one of the calls, none ahead of the last that made it last.
func TestCrashEverywhere(t *testing.T) {
	t.Parallel()
	l := script()
	seen := views(t, lay(t, 5, 450, 12), l)
	rnd := rand.New(rand.NewSource(182))
	for n := 0; ; n++ {
		b := lay(t, 5, 450, 12)
		b.r.Arm(n)
		done, lasts, _ := run(b, l)
		b.r.Crash(picksOf(b.r.Pending(), n%6, rnd))
		if n%3 == 0 {
			b.fail(rnd.Perm(5)[:3], n/3)
		}
		b.imports(t)
		b.stands(t, seen, done, lasts)
		if done == len(l) {
			return
		}
		goesOn(t, b)
	}
}

// goesOn wants a pool to be of use.
func goesOn(t *testing.T, b *bed) {
	t.Helper()
	for set := range datasets(b.List()) {
		b.writes(t, set, "/new", long(300, 9))
	}
	want(t, "Fsync", b.Fsync(), api.OK)
	is := b.view(t)
	b.r.Crash(nil)
	b.imports(t)
	if b.view(t) != is {
		t.Fatal("what was made to last")
	}
}

// P18.2: a crash at every write of an Import, and of those behind it too.
func TestCrashInImport(t *testing.T) {
	t.Parallel()
	l := script()
	seen := views(t, lay(t, 5, 450, 12), l)
	rnd := rand.New(rand.NewSource(183))
	for n := 0; n < 640; n += 1 + rnd.Intn(12) {
		for m := 0; ; m++ {
			b := lay(t, 5, 450, 12)
			b.r.Arm(n)
			done, lasts, _ := run(b, l)
			b.r.Crash(picksOf(b.r.Pending(), (n+m)%6, rnd))
			if n%2 == 0 {
				b.fail(rnd.Perm(5)[:3], n/2)
			}
			b.r.Arm(m)
			_, e := pool.Import(b.r, b.logs)
			if e == api.ErrDown {
				b.r.Crash(picksOf(b.r.Pending(), (n+m)%5, rnd))
				b.r.Arm(m / 2)
				if _, f := pool.Import(b.r, b.logs); f == api.ErrDown {
					b.r.Crash(picksOf(b.r.Pending(), 4, rnd))
				}
			}
			b.r.Arm(-1)
			b.imports(t)
			b.stands(t, seen, done, lasts)
			if e == api.OK {
				break
			}
		}
	}
}

// P18.2: a crash at every write of a Create: there is a new pool then, or what there was: none, or an older pool.
func TestCrashInCreate(t *testing.T) {
	t.Parallel()
	rnd := rand.New(rand.NewSource(185))
	for _, older := range []bool{false, true} {
		for n, created := 0, false; !created; n++ {
			for kind := range 6 {
				b := &bed{nil, nil, 12}
				b.r, _ = rack.New(5, 450)
				is := ""
				if older {
					b = lay(t, 5, 450, 12)
					run(b, script()[:25])
					is = b.view(t)
				}
				b.r.Arm(n)
				p, e := pool.Create(b.r, 12)
				if created = e == api.OK; !created && (p != nil || e != api.ErrDown) {
					t.Fatal(p, e)
				}
				b.r.Crash(picksOf(b.r.Pending(), kind, rnd))
				if kind%2 == 0 {
					b.fail(rnd.Perm(5)[:3], n)
				}
				if b.Pool, e = pool.Import(b.r, 12); e == api.ErrMiss && !older && !created {
					continue
				}
				want(t, "Import", e, api.OK)
				if now := b.view(t); now != "main\n/ {1 2 0 1}\n" && (now != is || created) {
					t.Fatalf("%d, %d:\n%.1000s", n, kind, now)
				}
				goesOn(t, b)
				done(t, b.Sync())
				b.cells(t)
			}
		}
	}
}
