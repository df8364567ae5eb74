package store_test

import (
	"slices"
	"testing"

	"hoard/api"
	"hoard/sha"
)

// many puts so many blocks of one byte or two, all unlike.
func (b bed) many(t *testing.T, n int) []api.Ptr {
	t.Helper()
	var l []api.Ptr
	for i := range n {
		l = append(l, b.puts(t, small(i)))
	}
	return l
}

// small is the i-th block of many.
func small(i int) []byte { return []byte{byte(i), byte(i / 256)}[:1+min(i/256, 1)] }

// remembers holds a block of many to whether the memory has it. (It is the youngest then.)
func (b bed) remembers(t *testing.T, l []api.Ptr, i int, must bool) {
	t.Helper()
	was := b.Counts()
	b.gets(t, l[i], small(i))
	if hit := b.Counts().Hits > was.Hits; hit != must {
		t.Errorf("block %d: remembered is %v", i, hit)
	}
}

// P9.1: 64 blocks are remembered that were put, and no 65th.
func TestRoom(t *testing.T) {
	b := lay(t, 5, 80)
	l := b.many(t, 64)
	for i := range 64 {
		b.remembers(t, l, i, true)
	}
	l = append(l, b.puts(t, small(64)))
	b.remembers(t, l, 0, false) // and now 1 is the oldest, which leaves
	b.remembers(t, l, 1, false)
	for i := 3; i < 65; i++ {
		b.remembers(t, l, i, true)
	}
	b.remembers(t, l, 0, true)
	b.remembers(t, l, 1, true)
	b.remembers(t, l, 2, false)
	b.counts(t, 131, 128, 3, 0, 65)
}

// P9.1: so are 64 that the array answered, each time a block is asked for more than that no one.
func TestRound(t *testing.T) {
	b := lay(t, 5, 80)
	l := b.many(t, 65)
	b = b.anew(t)
	for range 3 {
		for i := range 65 {
			b.remembers(t, l, i, false)
		}
	}
	b = b.anew(t)
	for n := range 3 {
		for i := range 64 {
			b.remembers(t, l, i, n > 0)
		}
	}
}

// P9.1: a block that the memory answers is the youngest, be it the oldest, the youngest, or one between.
func TestYoungest(t *testing.T) {
	for _, i := range []int{0, 1, 31, 62, 63} {
		b := lay(t, 5, 120)
		l := b.many(t, 64)
		b.remembers(t, l, i, true)
		var order []int // of the others, as they must leave
		for k := range 64 {
			if k != i {
				order = append(order, k)
			}
		}
		for n := range order {
			l = append(l, b.puts(t, small(64+n)))
		}
		b.remembers(t, l, i, true)
		for _, k := range order {
			b.remembers(t, l, k, false)
		}
	}
}

// P9.1: a block that is given back is remembered no longer, and makes room for another one.
func TestForgotten(t *testing.T) {
	b := lay(t, 5, 80)
	l := b.many(t, 64)
	want(t, "Give", b.Give(l[9]), api.OK)
	l = append(l, b.puts(t, small(64)))
	b.remembers(t, l, 0, true) // it needn't leave
	b.remembers(t, l, 9, false)
	b.remembers(t, l, 1, false) // as 9 is there again, though its cells are leaving
}

// P9.1: a Give that is refused forgets nothing; one of another sum or birth gives the cells and what is remembered of them.
func TestGiveForgets(t *testing.T) {
	b := lay(t, 5, 30)
	l := b.many(t, 3)
	for _, p := range []api.Ptr{{Addr: l[1].Addr, Size: 0}, {Addr: l[1].Addr, Size: 2000}, {Addr: l[1].Addr, Size: 1024, Sum: l[1].Sum}} {
		if b.Give(p) == api.OK {
			t.Error("Give", tell(p))
		}
		b.remembers(t, l, 1, true)
	}
	p := l[1]
	p.Birth, p.Sum = -5, ""
	want(t, "Give", b.Give(p), api.OK)
	b.cells(t, 140-12, 0, 4, 8, 12)
	b.remembers(t, l, 1, false)
	b.remembers(t, l, 1, true)
	b.remembers(t, l, 0, true)
	b.remembers(t, l, 2, true)
	want(t, "Give", b.Give(l[1]), api.ErrMiss)
	b.remembers(t, l, 1, true)
}

// P9.1: the memory answers just of an address with the sum and the size; the birth is nothing to it.
func TestMatch(t *testing.T) {
	b := lay(t, 5, 30)
	x := bytesOf(150, 1)
	p := b.puts(t, x)
	b.r.Flush()
	b.off()
	for _, birth := range []int{0, -1, 99} {
		q := p
		q.Birth = birth
		b.gets(t, q, x)
	}
	b.counts(t, 3, 3, 0, 0, 1)
	for _, q := range []api.Ptr{
		{Addr: p.Addr + 5, Size: 150, Birth: 1, Sum: p.Sum},
		{Addr: p.Addr, Size: 149, Birth: 1, Sum: p.Sum},
		{Addr: p.Addr, Size: 151, Birth: 1, Sum: p.Sum},
		{Addr: p.Addr, Size: 150, Birth: 1, Sum: sha.Sum(x[1:])},
	} {
		b.ungot(t, q, api.ErrDown)
	}
	for _, q := range []api.Ptr{
		{Addr: p.Addr, Size: 150, Birth: 1},
		{Addr: p.Addr, Size: 150, Birth: 1, Sum: p.Sum[:31]},
		{Addr: p.Addr, Size: 0, Birth: 1, Sum: p.Sum},
		{Addr: -1, Size: 150, Birth: 1, Sum: p.Sum},
		{Addr: 136, Size: 150, Birth: 1, Sum: p.Sum},
	} {
		b.ungot(t, q, api.ErrArg)
	}
	for d := range 5 {
		b.r.Lose(d)
	}
	b.ungot(t, api.Ptr{Addr: p.Addr, Size: 149, Birth: 1, Sum: p.Sum}, api.ErrIO)
	b.gets(t, p, x) // whatever the drives are
}

// P9.1: of one address there is one block: the last that was put or got. What is asked for in vain neither leaves nor is made younger.
func TestOneAddress(t *testing.T) {
	b := lay(t, 5, 100)
	x, y := bytesOf(150, 2), bytesOf(150, 3)
	p := b.puts(t, x)
	q := p
	q.Sum = sha.Sum(y)
	want(t, "Write", b.a.Write(p.Addr, y), api.OK)
	b.gets(t, p, x)
	b.counts(t, 1, 1, 0, 0, 1)
	b.gets(t, q, y)
	b.gets(t, q, y)
	b.counts(t, 3, 2, 1, 0, 1)
	b.ungot(t, p, api.ErrIO) // q took its place
	b.gets(t, q, y)
	b.counts(t, 4, 3, 1, 0, 1)

	b = lay(t, 5, 100)
	l := b.many(t, 64)
	bad := l[0]
	bad.Sum = sha.Sum(nil)
	b.ungot(t, bad, api.ErrIO)
	l = append(l, b.puts(t, small(64)))
	b.remembers(t, l, 0, false)
}

// P9.1: a block in the place of one that was got anew behind its Give takes that one's room.
func TestPutOver(t *testing.T) {
	b := lay(t, 5, 100)
	l := b.many(t, 64)
	want(t, "Give", b.Give(l[5]), api.OK)
	b.remembers(t, l, 5, false)
	if n := b.Settle(); n != 4 {
		t.Error("Settle", n)
	}
	b.remembers(t, l, 5, true) // Settle is nothing to the memory, nor is Begin
	want(t, "Begin", b.Begin(8), api.OK)
	b.remembers(t, l, 5, true)
	old := l[5]
	l[5] = b.puts(t, []byte("new"))
	if l[5].Addr != old.Addr {
		t.Fatal(tell(l[5]))
	}
	b.ungot(t, old, api.ErrIO)
	b.remembers(t, l, 0, true) // none had to leave
	b.gets(t, l[5], []byte("new"))
	if c := b.Counts(); c.Reads != 1 {
		t.Error(c)
	}
}

// P9.1: Heal neither asks the memory nor fills it.
func TestHealRemembersNothing(t *testing.T) {
	b := lay(t, 5, 100)
	l := b.many(t, 65)
	if to, e := b.Heal(l[0]); e != api.OK || len(to) != 0 {
		t.Error(to, e)
	}
	if _, e := b.Heal(l[1]); e != api.OK { // nor is it younger now
		t.Error(e)
	}
	l = append(l, b.puts(t, small(65)))
	b.remembers(t, l, 1, false)
	b.remembers(t, l, 0, false)
	b.remembers(t, l, 64, true)
	b.r.Replace(2)
	if to, e := b.Heal(l[64]); e != api.OK || !slices.Equal(to, []int{2}) {
		t.Error(to, e) // though the memory has it, the drive hadn't
	}
	b.counts(t, 3, 1, 2, 0, 66)
}
