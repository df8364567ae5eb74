package pool_test

import (
	"fmt"
	"math/rand"
	"slices"
	"testing"

	"hoard/api"
	"hoard/intent"
	"hoard/label"
	"hoard/pack"
	"hoard/pool"
	"hoard/step"
)

// txg is the newest record's transaction.
func (b *bed) txg(t *testing.T) int {
	t.Helper()
	u, e := label.Newest(b.r)
	want(t, "Newest", e, api.OK)
	return u.Txg
}

// intents are those that stand in the log.
func (b *bed) intents(t *testing.T) []string {
	t.Helper()
	_, l, e := intent.Open(b.r, 8, b.logs, b.txg(t))
	want(t, "intent.Open", e, api.OK)
	return l
}

// P18.2: an Fsync appends what took effect since the last one, in its order, each call once, of all datasets; what was refused, or asks alone, isn't among it.
func TestFsync(t *testing.T) {
	b := lay(t, 5, 500, 100)
	done(t, b.Snapshot("main@a"), b.Clone("main@a", "c"))
	if l := b.intents(t); len(l) > 0 {
		t.Error(l)
	}
	var all []string
	for i, x := range []struct {
		lines []act
		deeds int
	}{
		{nil, 0},
		{[]act{call("main", one(step.Create, "/f")), call("c", one(step.Mkdir, "/f")), call("main", one(step.Mkdir, "/d"))}, 3},
		{[]act{call("main", one(step.Create, "/f")), call("c", one(step.Stat, "/f")), call("c", one(step.Open, "/f")), call("main@a", one(step.Unlink, "/f")), call("c", step.Call{})}, 0},
		{[]act{call("c", one(step.Create, "/f/g")), call("main", one(step.Open, "/f")), call("main", at(step.Write, 1, 0, 0, long(200, 1))), call("main", at(step.Close, 1, 0, 0, ""))}, 2},
		{[]act{clients("c", one(step.Create, "/x"), one(step.Create, "/y"))}, 2},
		{nil, 0},
	} {
		for _, line := range x.lines {
			line.do(b)
		}
		if l := b.intents(t); !slices.Equal(l, all) {
			t.Fatal(i, "ahead of its Fsync", l)
		}
		want(t, "Fsync", b.Fsync(), api.OK)
		l := b.intents(t)
		if b.r.Pending() > 0 || len(l) != len(all)+x.deeds || !slices.Equal(l[:len(all)], all) {
			t.Fatal(i, all, l)
		}
		all = l
	}
	is := b.view(t)
	want(t, "Sync", b.Sync(), api.OK)
	if l := b.intents(t); len(l) > 0 {
		t.Error(l)
	}
	b.imports(t)
	if b.view(t) != is {
		t.Error("otherwise behind a Sync")
	}
}

// P18.2: a log that is full: a transaction takes its place, and the log begins anew.
func TestFullLog(t *testing.T) {
	for _, logs := range []int{1, 2, 5, 40} {
		b := lay(t, 5, 460, logs)
		b.all(t, "main", one(step.Create, "/f"), one(step.Open, "/f"))
		want(t, "Sync", b.Sync(), api.OK)
		size, room, txg := 0, logs, b.txg(t)
		for i := range 60 {
			n := 30 + 50*(i%4)
			b.all(t, "main", at(step.Write, 1, 0, 0, long(n, i)))
			size += n
			// An intent has its data, and some bytes more.
			need := intent.Need(long(n+len("main 6 2 0 "), i))
			want(t, "Fsync", b.Fsync(), api.OK)
			switch now := b.txg(t); {
			case need <= room && now == txg:
				room -= need
			case need > room && now > txg:
				room, txg = logs, now
				if l := b.intents(t); len(l) > 0 {
					t.Fatal(l)
				}
			default:
				t.Fatalf("%d of %d sectors, %d needed: transaction %d, %d ahead", room, logs, need, now, txg)
			}
			if i%7 == 0 {
				b.r.Crash(nil)
				p, e := pool.Import(b.r, logs)
				want(t, "Import", e, api.OK)
				b.Pool = p
				b.all(t, "main", one(step.Open, "/f"))
				room, txg = logs, b.txg(t)
			}
			b.does(t, "main", at(step.Read, 1, 0, n, ""), step.Result{Data: long(n, i)})
		}
	}
}

// quiet wants something to write nothing to the drives.
func (b *bed) quiet(t *testing.T, what string, do func()) {
	t.Helper()
	waits := b.r.Pending()
	b.r.Arm(0)
	do()
	if _, e := label.Newest(b.r); e != api.OK || b.r.Pending() != waits {
		t.Fatal(what, "writes to the drives")
	}
	b.r.Arm(-1)
}

// P18.1: what only asks writes nothing to the drives; nor does an Import with nothing to do.
func TestQuiet(t *testing.T) {
	b := lay(t, 6, 500, 40)
	b.writes(t, "main", "/f", long(3000, 1))
	b.all(t, "main", one(step.Mkdir, "/d"))
	done(t, b.Snapshot("main@a"), b.Clone("main@a", "c"))
	for _, anew := range []bool{false, true, true} {
		if anew {
			b.quiet(t, "Import", func() { b.imports(t) })
		}
		for _, set := range []string{"main", "main@a", "c"} {
			b.quiet(t, "a call", func() {
				b.reads(t, set, "/f", long(3000, 1))
				b.all(t, set, one(step.List, "/"), one(step.Stat, "/d"), one(step.Open, "/f"))
				b.Call(set, step.Call{})
				b.fails(t, set, one(step.Open, "/no"), api.ErrMiss)
				b.all(t, set, at(step.Close, 1, 0, 0, ""))
			})
		}
		b.quiet(t, "a client's call", func() {
			for n, kind := range []int{step.Open, step.Stat, step.List} {
				want(t, "Begin", b.Begin("c", n, one(kind, "/")), api.OK)
				for range 4 {
					_, e := b.Step("c", n)
					want(t, "Step", e, api.OK)
				}
				_, e := b.Result("c", n)
				want(t, "Result", e, api.OK)
			}
		})
		b.quiet(t, "what only asks", func() {
			b.List()
			b.Free()
			b.sends(t, "", "main@a")
			b.sends(t, "main@a", "main@a")
			b.scrubs(t)
			b.Scrub("x")
			b.noClient(t, "no", api.ErrMiss)
			for _, e := range []api.Errno{b.Snapshot("x"), b.Snapshot("main@a"), b.Clone("main@a", "c"), b.Destroy("main"), b.Destroy("no"), b.Receive("", "X", nil), b.Receive("", "d", nil)} {
				if e == api.OK || e == api.ErrDown {
					t.Fatal(e)
				}
			}
		})
	}
	// Calls that change something are in memory, as long as there is room.
	b.quiet(t, "a call", func() { b.all(t, "main", one(step.Create, "/g"), one(step.Unlink, "/g")) })
	b.r.Crash(nil)
	b.quiet(t, "Import", func() { b.imports(t) })
	want(t, "Stat", b.Call("main", one(step.Stat, "/g")).Err, api.ErrMiss)
}

// P18.2: if a drive lacks the newest label's record, an Import writes it to all drives, and flushes it; no transaction is made for that.
func TestSpread(t *testing.T) {
	for drive := range 6 {
		b := lay(t, 6, 500, 40)
		txg := b.txg(t)
		switch drive % 3 {
		case 0:
			b.r.Replace(drive)
		case 1:
			b.r.Rot(drive, txg%8, 77)
		default:
			u, _ := label.Newest(b.r)
			u.Txg += 8
			s, e := label.Encode(u)
			done(t, e, b.r.Write(drive, u.Txg%8, s), b.r.Flush())
			txg += 8
		}
		b.r.Lose((drive + 1) % 6)
		b.imports(t)
		b.r.Crash(nil)
		if b.txg(t) != txg {
			t.Error(drive, b.txg(t), txg)
		}
		for other := range 6 {
			if l, e := label.Slots(b.r, other); other != (drive+1)%6 && (e != api.OK || l[txg%8] != txg) {
				t.Error(drive, other, l, e)
			}
		}
		b.imports(t) // what a new drive lacks of the blocks is mended on the way
		done(t, b.r.Flush())
		b.quiet(t, "Import", func() { b.imports(t) })
	}
}

// piece is the sector of a piece.
func piece(t *testing.T, base, k, last int, s string) []byte {
	t.Helper()
	num := func(n int) api.Item { return api.Item{Kind: 1, N: n} }
	b, e := pack.Sector([]api.Item{num(55), num(base), num(k), num(last), text(s)})
	want(t, "pack.Sector", e, api.OK)
	return b
}

// P18.2: an Import makes a transaction if some sector of the log, on a drive that isn't gone, holds a piece of the newest record's transaction, wherever it stands; and else none.
func TestStrays(t *testing.T) {
	t.Parallel()
	const logs = 40
	const base = 9
	turned := piece(t, base, 3, 0, "abc")
	turned[20] ^= 1
	for i, x := range []struct {
		at    int // of the log
		b     []byte
		stray bool
	}{
		{3, piece(t, base, 3, 0, "abc"), true}, {0, piece(t, base, 0, 0, "abc"), true}, {39, piece(t, base, 39, 1, ""), true}, {5, piece(t, base, 5, 1, "0"), true},
		{5, piece(t, base, 5, 1, "1"), true}, {3, piece(t, base, 7, 0, "abc"), true}, {3, piece(t, base, 0, 1, "abc"), true}, {0, piece(t, base, 499, 0, ""), true},
		{3, piece(t, base-1, 3, 0, "abc"), false}, {0, piece(t, base+1, 0, 1, "abc"), false}, {3, turned, false}, {3, long128(), false},
		{40, piece(t, base, 3, 0, "abc"), false}, {-1, piece(t, base, 0, 1, "abc"), false}, {3, piece(t, base, 3, 2, "abc"), false}, {3, piece(t, base, 3, 1, long(57, 1)), false},
	} {
		for drive := range 5 {
			b := lay(t, 5, 500, logs)
			b.all(t, "main", one(step.Create, "/old")) // no block is in the first cells behind this
			for b.txg(t) < base {
				done(t, b.Sync())
			}
			b.writes(t, "main", "/f", "abc")
			b.r.Crash(nil)
			done(t, b.r.Write(drive, 8+x.at, x.b), b.r.Flush())
			if i%4 == 0 {
				b.r.Lose((drive + 1) % 5)
			}
			b.imports(t)
			if is := b.txg(t); (is > base) != x.stray || b.r.Pending() > 0 {
				t.Error(i, drive, is, base)
			}
			b.misses(t, "main", "/f")
			if x.stray {
				b.r.Lose(drive)
				b.imports(t)
				continue
			}
			b.quiet(t, "Import", func() { b.imports(t) })
			b.r.Lose(drive)
			b.quiet(t, "Import", func() { b.imports(t) })
		}
	}
}

// long128 is a sector of no form.
func long128() []byte { return []byte(long(128, 5)) }

// P18.2: a piece that lasted, though those ahead of it didn't, is never taken for one of what is appended later.
func TestLatePieces(t *testing.T) {
	t.Parallel()
	rnd := rand.New(rand.NewSource(1822))
	for range 60 {
		b := lay(t, 5, 500, 12)
		b.all(t, "main", one(step.Create, "/f"), one(step.Open, "/f"))
		want(t, "Sync", b.Sync(), api.OK)
		data := ""
		for i := range 8 {
			next := long(1+rnd.Intn(150), i)
			b.all(t, "main", at(step.Write, 1, 0, 0, long(1000, i)), at(step.Write, 1, 0, 0, next), at(step.Truncate, 1, 0, len(next), ""))
			b.r.Arm(rnd.Intn(60))
			e := b.Fsync()
			b.crash(rnd)
			b.imports(t)
			o := b.Call("main", one(step.Open, "/f"))
			want(t, "Open", o.Err, api.OK)
			is := b.Call("main", at(step.Read, 1, 0, 5000, "")).Data
			if is != next {
				half := next + long(1000, i)[min(len(next), 1000):]
				first := long(1000, i) + data[min(len(data), 1000):]
				if e == api.OK || is != data && is != half && is != first {
					t.Fatalf("%d bytes", len(is))
				}
			}
			data = is
		}
	}
}

// An Import refuses a log in which stands what no pool appends.
func TestNoIntents(t *testing.T) {
	for i, s := range []string{
		"", " ", "main", "main 1", "main 1 ", "no 1 /x", "main@a 1 /x", "main 3 /f", "main 14 /f", "main 0 /f", "main -1 /f", "main x /f", "main 01 /x", "main 1 /x y", "main 1 /x ",
		"main 6 2 0", "main 6 02 0 x", "main 6 x 0 y", "main 6 9 0 x", "main 6 2 -1 x", "main 7 2 4097", "main 7 2 1 1", "main 8 /f", "main 8 /f /d /e", "main 9 /no", "main 1 /f",
	} {
		b := lay(t, 5, 500, 40)
		b.writes(t, "main", "/f", "abc")
		b.all(t, "main", one(step.Mkdir, "/d"))
		done(t, b.Snapshot("main@a"))
		l, _, e := intent.Open(b.r, 8, 40, b.txg(t))
		done(t, e, l.Append(s), b.r.Flush())
		if p, e := pool.Import(b.r, 40); p != nil || e == api.OK || e == api.ErrDown {
			t.Error(i, s, e)
		}
	}
	b := lay(t, 5, 500, 40)
	l, _, e := intent.Open(b.r, 8, 40, b.txg(t))
	done(t, e)
	for i := range 5 {
		done(t, l.Append(fmt.Sprint("main 1 /x", i)))
	}
	b.imports(t)
	b.does(t, "main", one(step.List, "/"), step.Result{Names: []string{"x0", "x1", "x2", "x3", "x4"}})
}
