package stream_test

import (
	"maps"
	"math"
	"math/rand"
	"slices"
	"testing"

	"hoard/api"
	"hoard/store"
	"hoard/stream"
	"hoard/tree"
)

// digests holds Digest to that of pairs.
func digests(t *testing.T, x *tree.Tree, m pairs) {
	t.Helper()
	if s, e := stream.Digest(x); s != digest(m) || e != api.OK {
		t.Fatalf("Digest: %x, %d, not %x", s, e, digest(m))
	}
}

// P16.1: a digest tells pairs apart, and nothing else: neither what is written nor the way on which they came.
func TestDigest(t *testing.T) {
	b := lay(t, 5, 2000)
	digests(t, b.open(t, api.Ptr{}), pairs{})
	met := map[string]int{}
	for i, m := range []pairs{
		{}, {"a": ""}, {"a": "1"}, {"a": "2"}, {"b": "1"}, {"a": "1", "b": "1"}, {"a": "", "b": ""}, {"a": "b"}, {"ab": ""}, {"a1": "", "b": "1"},
		{"a": "b", "c": ""}, {"\x00": "\x00\x00"}, {long(24): long(300)}, many(300, 30), many(301, 30), many(300, 31),
	} {
		x := b.tree(t, m)
		digests(t, x, m)
		digests(t, b.open(t, syncs(t, x)), m)
		digests(t, x, m)
		want(t, "Put", x.Put("more", "x"), api.OK)
		want(t, "Drop", x.Drop("more"), api.OK)
		digests(t, x, m)
		met[digest(m)] = i
	}
	if len(met) != 16 {
		t.Error("two have one digest")
	}
}

// P16.1: no tree, and what the store answers.
func TestNoDigest(t *testing.T) {
	for _, x := range []*tree.Tree{nil, new(tree.Tree)} {
		if s, e := stream.Digest(x); s != "" || e != api.ErrArg {
			t.Errorf("%x, %d", s, e)
		}
	}
	b := lay(t, 5, 400)
	root := b.root(t, many(20, 30))
	for drive := range 3 {
		want(t, "Lose", b.r.Lose(drive), api.OK)
	}
	digests(t, b.anew(t).open(t, root), many(20, 30))
	want(t, "Lose", b.r.Lose(3), api.OK)
	if s, e := stream.Digest(b.anew(t).open(t, root)); s != "" || e != api.ErrIO {
		t.Errorf("%x, %d", s, e)
	}
}

// P16.1: a stream, byte by byte.
func TestBytes(t *testing.T) {
	b := lay(t, 5, 400)
	old, now := pairs{"a": "1", "c": ""}, pairs{"a": "2", "b": "3"}
	got, e := stream.Send(b.Store, b.root(t, old), b.root(t, now))
	s := "\x01\xb0\x01" + "\x02\x20" + digest(old) + "\x02\x20" + digest(now) +
		"\x02\x01a\x01\x02\x02\x012" + "\x02\x01b\x01\x02\x02\x013" + "\x02\x01c\x01\x00"
	if s += sum(s); e != api.OK || string(got) != s {
		t.Errorf("%x, %d, not %x", got, e, s)
	}
}

// P16.1: a stream between any two of many roots, whichever came of which: full ones, ones of drops alone, ones without changes.
func TestSend(t *testing.T) {
	for seed := range 6 {
		rnd := rand.New(rand.NewSource(int64(seed)))
		b := lay(t, 16, 2000)
		l := b.pasts(t, rnd, 10, []int{5, 60, 300}[seed%3])
		for _, old := range l {
			for _, now := range l {
				if l := itemsOf(old.m, now.m); len(l) <= 2000 && len(sealed(t, l)) <= 60000 {
					b.sends(t, old, now)
				} else {
					b.noSend(t, old.root, now.root, api.ErrBig)
				}
			}
		}
	}
}

// P16.1: Send's errors.
func TestNoSend(t *testing.T) {
	b := lay(t, 5, 400)
	p := b.root(t, pairs{"a": "1"})
	for _, s := range []*store.Store{nil, new(store.Store)} {
		bed{Store: s}.noSend(t, p, p, api.ErrArg)
		bed{Store: s}.noSend(t, api.Ptr{}, p, api.ErrArg)
		bed{Store: s}.noSend(t, p, api.Ptr{}, api.ErrArg)
	}
	bed{}.noSend(t, api.Ptr{}, api.Ptr{}, api.ErrArg)
	q, e := b.Put([]byte("no tree's"))
	want(t, "Put", e, api.OK)
	b.noSend(t, p, q, api.ErrForm)
	b.noSend(t, q, p, api.ErrForm)
	q.Sum = sum("other")
	b.noSend(t, p, q, api.ErrIO)
	b.noSend(t, q, p, api.ErrIO)
	for _, n := range []int{math.MinInt, -1, 0, 1, 1024, 1025, math.MaxInt} { // P1
		for _, s := range []string{"", "x", p.Sum} {
			w := api.Ptr{Addr: n, Size: n, Birth: n, Sum: s}
			for _, two := range [][2]api.Ptr{{w, p}, {p, w}, {w, w}} {
				if x, e := stream.Send(b.Store, two[0], two[1]); w != (api.Ptr{}) && (len(x) != 0 || e == api.OK) {
					t.Error(w, e)
				}
			}
		}
	}
}

// P16.1: as many bytes as a stream may have, and one more.
func TestMostBytes(t *testing.T) {
	b := lay(t, 16, 2000)
	m := many(200, 288)
	rest := 60000 - len(sealed(t, itemsOf(pairs{}, m)))
	for rest < 400 {
		k := key(len(m) - 1)
		delete(m, k)
		rest = 60000 - len(sealed(t, itemsOf(pairs{}, m)))
	}
	m["y"] = long(300)
	rest = 60000 - len(sealed(t, itemsOf(pairs{}, m)))
	m["z"] = long(rest - 8)
	now := past{b.root(t, m), m}
	full := b.sends(t, past{m: pairs{}}, now)
	if len(full) != 60000 {
		t.Fatal(len(full))
	}
	receives(t, b.tree(t, pairs{}), full, m)
	more := maps.Clone(m)
	more["z"] += "x"
	b.noSend(t, api.Ptr{}, b.root(t, more), api.ErrBig)
	b.sends(t, now, past{b.root(t, more), more}) // the trees may have more: what changed counts
	refuses(t, "60001 bytes", b.tree(t, pairs{}), sealed(t, itemsOf(pairs{}, more)), api.ErrForm)
}

// P16.1: as many items as there may be, and more.
func TestMostItems(t *testing.T) {
	b := lay(t, 16, 2000)
	for _, c := range []struct {
		puts, drops int
		must        api.Errno
	}{
		{665, 0, api.OK}, {666, 0, api.ErrBig}, {0, 998, api.OK}, {0, 999, api.ErrBig}, {1, 997, api.OK}, {2, 996, api.ErrBig}, {663, 4, api.OK},
		{664, 3, api.ErrBig}, {0, 1100, api.ErrBig},
	} {
		old, now := pairs{}, pairs{}
		for i := range c.drops {
			old[key(i)] = ""
		}
		for i := range c.puts {
			now[key(2000+i)] = ""
		}
		p, q := past{b.root(t, old), old}, past{b.root(t, now), now}
		if c.must != api.OK {
			b.noSend(t, p.root, q.root, c.must)
			continue
		}
		x := b.sends(t, p, q)
		receives(t, b.tree(t, old), x, now)
	}
}

// P16.1: what the store answers: though three drives are lost all is sent, with four nothing that can't be read.
func TestSendLost(t *testing.T) {
	b := lay(t, 6, 800)
	l := b.pasts(t, rand.New(rand.NewSource(3)), 3, 40)
	want(t, "Flush", b.r.Flush(), api.OK)
	for _, drive := range []int{1, 2, 5} {
		want(t, "Lose", b.r.Lose(drive), api.OK)
	}
	b.anew(t).sends(t, l[2], l[3])
	want(t, "Lose", b.r.Lose(0), api.OK)
	b.anew(t).noSend(t, l[2].root, l[3].root, api.ErrIO)
	b.anew(t).noSend(t, api.Ptr{}, l[3].root, api.ErrIO)
	b.r.Arm(0)
	b.r.Flush()
	b.anew(t).noSend(t, l[2].root, l[3].root, api.ErrIO) // the lost drives count ahead of the power
}

// P16.4: what is sent is new memory, and sending changes nothing.
func TestSentMemory(t *testing.T) {
	b := lay(t, 5, 800)
	l := b.pasts(t, rand.New(rand.NewSource(4)), 3, 40)
	used, waits := b.Used(), b.r.Pending()
	for range 3 {
		x := b.sends(t, l[1], l[3])
		clear(x[:cap(x)])
	}
	if !slices.Equal(b.Used(), used) || b.r.Pending() != waits {
		t.Error("something was written")
	}
	tells(t, b.open(t, l[3].root), l[3].m)
}
