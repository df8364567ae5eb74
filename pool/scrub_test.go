package pool_test

import (
	"fmt"
	"math/rand"
	"slices"
	"testing"

	"hoard/api"
	"hoard/scrub"
	"hoard/step"
)

// begins is a scrub of the pool.
func (b *bed) begins(t *testing.T, cursor string) *scrub.Scrub {
	t.Helper()
	c, e := b.Scrub(cursor)
	if c == nil || e != api.OK {
		t.Fatalf("Scrub(%q): %v, %d", cursor, c, e)
	}
	return c
}

// goes has a scrub go n blocks on.
func goes(t *testing.T, c *scrub.Scrub, n int) bool {
	t.Helper()
	end, e := c.Step(n)
	want(t, "Step", e, api.OK)
	return end
}

// full is a pool with some blocks, of a dataset, its snapshots and a clone.
func full(t *testing.T, drives int) *bed {
	t.Helper()
	b := lay(t, drives, 700, 40)
	for i := range 5 {
		b.writes(t, "main", fmt.Sprint("/", i), long(800*i, i))
		if i%2 == 0 {
			done(t, b.Snapshot(fmt.Sprint("main@", i)))
		}
	}
	done(t, b.Clone("main@2", "c"))
	b.writes(t, "c", "/c", long(1500, 7))
	done(t, b.Sync())
	return b
}

// P18.3: a scrub meets all blocks that the last transaction's root needs, each once, in one go or in parts; what was done since isn't among them.
func TestScrubBlocks(t *testing.T) {
	t.Parallel()
	b := full(t, 6)
	l, _ := b.needed(t)
	n := len(l)
	b.writes(t, "main", "/more", long(4000, 1))
	if o := b.scrubs(t); o.Done != n || o.Wrong != 0 {
		t.Fatal(o, n)
	}
	b.r.Replace(2)
	for k := 1; k <= n; k += 3 {
		cursor, end := "", false
		for i := 0; !end; i += k {
			c := b.begins(t, cursor)
			end = goes(t, c, k)
			if o := c.Report(); o.Done != min(i+k, n) || o.Lost != 0 {
				t.Fatal(k, i, o)
			}
			cursor = c.Cursor()
		}
		if c := b.begins(t, cursor); !goes(t, c, 1) || c.Report().Done != n || k > 1 && c.Report().Wrong != 0 {
			t.Fatal(k, c.Report())
		}
	}
	for _, cursor := range []string{"x", " ", "\x01\x00", "\x01\x00\x01\x00\x01\x00", "\x01\x00\x01\x00\x01\x00\x01\x00\x01\x00", string(make([]byte, 8)), "\x01\x00\x01\x00\x01\x02\x01\x00"} {
		if c, e := b.Scrub(cursor); c != nil || e != api.ErrForm {
			t.Errorf("%q: %v, %d", cursor, c, e)
		}
	}
}

// P18.3: rot on up to three drives that is healed, by reading or by a scrub, changes no answer; then others may rot.
func TestHealed(t *testing.T) {
	t.Parallel()
	for turn := range 12 {
		b := full(t, 6)
		is := b.view(t)
		for round := range 4 {
			for i := range 3 {
				b.rots((turn+round+i*(1+turn%2))%6, 50*round+i)
			}
			if turn%3 == 0 {
				if o := b.scrubs(t); o.Wrong != o.Done {
					t.Fatal(o)
				}
			}
			if turn%3 == 1 {
				b.r.Flush()
			}
			b.imports(t)
			if b.view(t) != is {
				t.Fatal(turn, round, "other answers")
			}
			b.scrubs(t)
			if o := b.scrubs(t); o.Wrong != 0 {
				t.Fatal(o)
			}
			done(t, b.Sync())
		}
	}
}

// P18.3, P4: scrubs that go on while calls are done and transactions made change no answer: none mends a block that was given back where another one is now.
func TestScrubBetween(t *testing.T) {
	t.Parallel()
	for seed := range 60 {
		rnd := rand.New(rand.NewSource(int64(seed)))
		b := full(t, 5+seed%3)
		files := map[string]string{}
		var scrubs []*scrub.Scrub
		for range 40 {
			switch n := rnd.Intn(12); {
			case n < 1:
				scrubs = append(scrubs, b.begins(t, ""))
			case n < 2 && len(scrubs) > 0:
				scrubs = append(scrubs, b.begins(t, anyOf(rnd, scrubs).Cursor()))
			case n < 5 && len(scrubs) > 0:
				c := anyOf(rnd, scrubs)
				if goes(t, c, rnd.Intn(9)); c.Report().Lost > 0 {
					t.Fatal(seed, c.Report())
				}
			case n < 9:
				name := fmt.Sprint("/", rnd.Intn(9))
				files[name] = long(rnd.Intn(rnd.Intn(4000)+1), seed)
				b.writes(t, "main", name, files[name])
			case n < 10:
				name := fmt.Sprint("/", rnd.Intn(9))
				b.Call("main", one(step.Unlink, name))
				delete(files, name)
			case n < 11:
				done(t, b.Sync())
			default:
				b.Destroy(anyOf(rnd, []string{"c", "main@0", "main@2", "main@4"}))
			}
		}
		for _, c := range scrubs {
			if !goes(t, c, 9999) || c.Report().Lost > 0 {
				t.Fatal(seed, c.Report())
			}
		}
		if o := b.scrubs(t); o.Wrong != 0 {
			t.Fatal(seed, o)
		}
		done(t, b.Sync())
		b.imports(t)
		for name, data := range files {
			b.reads(t, "main", name, data)
		}
		b.cells(t)
	}
}

// P18.3: behind a scrub that lies across transactions all blocks are whole, those that were written meanwhile too.
func TestScrubAcross(t *testing.T) {
	t.Parallel()
	for seed := range 20 {
		rnd := rand.New(rand.NewSource(int64(seed)))
		b := full(t, 6)
		bad := rnd.Perm(6)[:3]
		for i, drive := range bad {
			if (seed+i)%3 == 0 {
				b.rots(drive, seed)
			} else {
				b.r.Replace(drive)
			}
		}
		c := b.begins(t, "")
		for end := false; !end; {
			b.writes(t, "main", fmt.Sprint("/n", rnd.Intn(5)), long(rnd.Intn(2000), seed))
			if rnd.Intn(2) == 0 {
				done(t, b.Sync())
			}
			end = goes(t, c, 1+rnd.Intn(9))
		}
		if c.Report().Lost > 0 {
			t.Fatal(c.Report())
		}
		done(t, b.Sync())
		if o := b.scrubs(t); o.Wrong != 0 {
			t.Fatal(seed, o)
		}
		is := b.view(t)
		for drive := range 6 {
			if !slices.Contains(bad, drive) {
				b.r.Lose(drive)
			}
		}
		b.imports(t)
		if b.view(t) != is {
			t.Fatal(seed, "other answers")
		}
	}
}

// P18.3: what a scrub met it tells for ever, though others mend what is left, and transactions are made; but where one gives blocks back that are ahead of it, that tells of drives begins anew.
func TestScrubTells(t *testing.T) {
	b := full(t, 6)
	b.r.Replace(2)
	c, d := b.begins(t, ""), b.begins(t, "")
	goes(t, d, 9)
	goes(t, c, 14)
	b.scrubs(t)
	done(t, b.Sync())
	goes(t, c, 1)
	for _, x := range []*scrub.Scrub{c, d} {
		if o := x.Report(); !slices.Equal(o.Drives, []int{2}) {
			t.Error(o)
		}
	}
	goes(t, c, 999)
	is := c.Report()
	for i := range 3 {
		b.writes(t, "main", fmt.Sprint("/", i), long(900, i))
		done(t, b.Sync())
		if o := c.Report(); o.Done != is.Done || o.Wrong != is.Wrong || !slices.Equal(o.Drives, []int{2}) {
			t.Error(o, is)
		}
	}
	if o := d.Report(); o.Done != 9 || len(o.Drives) > 0 {
		t.Error(o)
	}
}

// P18.5: where it can't be told with which blocks a scrub has to go on, it ends.
func TestScrubLost(t *testing.T) {
	b := lay(t, 16, 900, 40)
	for i := range 20 {
		b.writes(t, "main", fmt.Sprint("/", i), long(4000, i))
	}
	done(t, b.Snapshot("main@a"))
	for i := range 20 {
		b.writes(t, "main", fmt.Sprint("/", i), long(100, i))
	}
	done(t, b.Sync())
	c := b.begins(t, "")
	goes(t, c, 5)
	// This reads more blocks than are remembered; the next lines those alone that a transaction needs.
	b.fails(t, "main@a", at(step.Close, 1, 0, 0, ""), api.ErrStale)
	done(t, b.Sync())
	b.writes(t, "main", "/0", "abc")
	for drive := range 16 {
		b.rots(drive, 7)
	}
	done(t, b.Sync())
	if end, e := c.Step(9); end || e != api.ErrArg {
		t.Error(end, e)
	}
	b.reads(t, "main", "/0", "abc")
	want(t, "Scrub", func() api.Errno { _, e := b.Scrub(""); return e }(), api.ErrIO)
}

// P18.3: a scrub whose power goes off goes on behind an Import from its cursor.
func TestScrubDown(t *testing.T) {
	b := full(t, 5)
	b.r.Replace(1)
	c := b.begins(t, "")
	goes(t, c, 7)
	b.r.Arm(5)
	if end, e := c.Step(99); end || e != api.ErrDown {
		t.Fatal(end, e)
	}
	cursor := c.Cursor()
	b.r.Crash(slices.Repeat([]int{1}, 99999))
	b.imports(t)
	c = b.begins(t, cursor)
	l, _ := b.needed(t)
	if !goes(t, c, 999) || c.Report().Lost > 0 || c.Report().Done != len(l) {
		t.Fatal(c.Report())
	}
	if o := b.scrubs(t); o.Wrong != 0 {
		t.Fatal(o)
	}
}
