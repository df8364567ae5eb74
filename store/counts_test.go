package store_test

import (
	"bytes"
	"slices"
	"sync"
	"testing"

	"hoard/api"
	"hoard/sha"
	"hoard/store"
)

// P9.1: what is counted of each call: those that answer OK alone.
func TestCounts(t *testing.T) {
	b := lay(t, 5, 12)
	b.counts(t, 0, 0, 0, 0, 0)
	p := b.puts(t, bytesOf(100, 1))
	q := b.puts(t, bytesOf(200, 2))
	b.unput(t, nil, api.ErrArg)
	b.counts(t, 0, 0, 0, 0, 2)
	b.gets(t, p, bytesOf(100, 1))
	b.gets(t, q, bytesOf(200, 2))
	b.gets(t, p, bytesOf(100, 1))
	b.counts(t, 3, 3, 0, 0, 2)
	b.Begin(5)
	b.Heal(p)
	b.Give(q)
	b.Give(q)
	b.Settle()
	b.counts(t, 3, 3, 0, 0, 2)
	b.gets(t, q, bytesOf(200, 2)) // it lies there still
	b.counts(t, 4, 3, 1, 0, 2)
	b.puts(t, bytesOf(50, 3)) // over it
	b.ungot(t, q, api.ErrIO)
	b.ungot(t, api.Ptr{Addr: -1, Size: 1, Sum: sha.Sum(nil)}, api.ErrArg)
	b.counts(t, 4, 3, 1, 0, 3)
	b.r.Lose(1)
	s := b.anew(t)
	s.gets(t, p, bytesOf(100, 1))
	s.gets(t, p, bytesOf(100, 1))
	s.counts(t, 2, 1, 1, 1, 0)
	b.counts(t, 4, 3, 1, 0, 3) // each store counts its own
}

// watch asks for the counts till it is done, and holds them to one another.
func (b bed) watch(t *testing.T, done chan int) {
	var was store.Counts
	for {
		c := b.Counts()
		if c.Gets < was.Gets || c.Hits < was.Hits || c.Reads < was.Reads || c.Heals < was.Heals || c.Puts < was.Puts {
			t.Errorf("%v behind %v", c, was)
		}
		if c.Gets != c.Hits+c.Reads || c.Heals > c.Reads {
			t.Errorf("%v doesn't fit together", c)
		}
		was = c
		select {
		case <-done:
			return
		default:
		}
	}
}

// ask is a turn of one of those who ask: it puts a block, gets blocks, and gives its own one back.
func (b bed) ask(t *testing.T, l []api.Ptr, who, turn int) {
	x := bytesOf(40+who, turn)
	p, e := b.Put(x)
	if e != api.OK {
		t.Error("Put", e)
	}
	for i := range l {
		k := (i + who + turn) % len(l)
		if y, e := b.Get(l[k]); e != api.OK || !bytes.Equal(y, small(k)) {
			t.Error("Get", y, e)
		}
	}
	if y, e := b.Get(p); e != api.OK || !bytes.Equal(y, x) {
		t.Error("Get", y, e)
	}
	if e := b.Give(p); e != api.OK || b.Begin(1) != api.OK || b.Txg() != 1 || b.Free() < 0 || len(b.Used()) == 0 {
		t.Error("Give", e)
	}
	if _, e := b.Heal(l[turn]); e != api.OK {
		t.Error("Heal", e)
	}
	b.Settle()
}

// P9.1: the counts are told while several ask, and nothing is lost.
func TestAtOnce(t *testing.T) {
	const askers, turns = 8, 12
	b := lay(t, 5, 120)
	l := b.many(t, 70)
	b.r.Lose(0)
	b = b.anew(t)
	done := make(chan int)
	var watchers, all sync.WaitGroup
	for range 2 {
		watchers.Go(func() { b.watch(t, done) })
	}
	for who := range askers {
		all.Go(func() {
			for turn := range turns {
				b.ask(t, l, who, turn)
			}
		})
	}
	all.Wait()
	close(done)
	watchers.Wait()
	c := b.Counts()
	if c.Gets != askers*turns*71 || c.Hits+c.Reads != c.Gets || c.Puts != askers*turns || c.Heals == 0 || c.Heals > c.Reads {
		t.Error(c)
	}
	if b.Settle(); b.Free() != 590-280 || !slices.Equal(b.Used(), list(0, 280)) {
		t.Error(b.Free(), b.Used())
	}
}
