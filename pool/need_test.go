package pool

import (
	"fmt"
	"math/rand"
	"strings"
	"testing"

	"hoard/api"
	"hoard/rack"
	"hoard/step"
)

// anyDeed is a call that may change a world, of files in some directories with names of many lengths.
func anyDeed(rnd *rand.Rand) step.Call {
	path := func() string {
		return fmt.Sprintf("/d%d/%s%d", rnd.Intn(6), strings.Repeat("n", rnd.Intn(12)), rnd.Intn(30))
	}
	c := step.Call{Path: path(), To: path(), D: 1 + rnd.Intn(8), Off: rnd.Intn(4000), N: rnd.Intn(4097)}
	kinds := []int{step.Create, step.Create, step.Open, step.Close, step.Write, step.Write, step.Write, step.Truncate, step.Rename, step.Unlink, step.Rmdir, step.Link}
	c.Kind = kinds[rnd.Intn(len(kinds))]
	switch rnd.Intn(4) {
	case 0:
		c.Off, c.Data = 0, strings.Repeat("x", 4096)
	case 1:
		c.Data = strings.Repeat("y", rnd.Intn(4097-c.Off))
	default:
		c.Data = "z"
	}
	return c
}

// ErrSpace: a transaction never writes more blocks than the calls ahead of it were admitted for, nor does a single one behind it; so no room is ever missing in an Import.
func TestNeed(t *testing.T) {
	t.Parallel()
	for seed := range 24 {
		rnd := rand.New(rand.NewSource(int64(seed)))
		r, _ := rack.New(5+seed%12, 1000)
		p, e := Create(r, 40)
		if e != api.OK {
			t.Fatal(e)
		}
		sets := []string{"main", "a", "b"}
		for i := range 6 {
			p.Call("main", step.Call{Kind: step.Mkdir, Path: fmt.Sprint("/d", i)})
		}
		for i := range 100 * (seed % 4) {
			p.Call("main", step.Call{Kind: step.Create, Path: fmt.Sprint("/d0/full", i)})
		}
		for i, set := range sets[1:] {
			if p.Snapshot(fmt.Sprint("main@", i)) != api.OK || p.Clone(fmt.Sprint("main@", i), set) != api.OK {
				t.Fatal(seed)
			}
		}
		for range 120 {
			for range 1 + rnd.Intn(rnd.Intn(30)+1) {
				p.Call(sets[rnd.Intn(1+rnd.Intn(3))], anyDeed(rnd))
			}
			if p.survey() != api.OK {
				t.Fatal(seed)
			}
			need, places, puts := p.need(nil, effort{}), p.room.places, p.store.Counts().Puts
			if e := p.Sync(); e != api.OK {
				t.Fatal(seed, e)
			}
			if n := p.store.Counts().Puts - puts; n > need || need > places {
				t.Fatalf("%d: %d blocks, %d at most, %d places", seed, n, need, places)
			}
			if rnd.Intn(20) == 0 && p.Destroy(fmt.Sprint("main@", 5)) != api.OK && p.Snapshot(fmt.Sprint("main@", 5)) != api.OK {
				t.Fatal(seed)
			}
		}
	}
}

// ErrSpace: no tree has more levels than a weight tells, nor a single call more work.
func TestLevels(t *testing.T) {
	for blocks, must := range map[int]int{0: 1, 1: 1, 2: 1, 3: 2, 10: 2, 11: 3, 42: 3, 43: 4, 170: 4, 171: 5} {
		if n := (weight{blocks: blocks}).levels(); n != must {
			t.Error(blocks, n, must)
		}
	}
	for _, x := range []struct {
		c step.Call
		n int
	}{
		{step.Call{Kind: step.Create, Data: "x"}, 0}, {step.Call{Kind: step.Write}, 0}, {step.Call{Kind: step.Write, Data: "x"}, 2},
		{step.Call{Kind: step.Write, Data: strings.Repeat("x", 600)}, 4}, {step.Call{Kind: step.Write, Data: strings.Repeat("x", 9999)}, 16},
	} {
		if is := effortOf(x.c); is.chunks != x.n || is.kind != x.c.Kind {
			t.Error(x, is)
		}
	}
	if k := (work{1, 2}).with(weight{blocks: 11}, effort{chunks: 5}); k != (work{1 + 100 + 5*280, 2 + 9*4 + 5}) {
		t.Error(k)
	}
}

// ErrSpace: what is needed, and what there is, counted.
func TestCounted(t *testing.T) {
	p := tight(t, 5, 2000)
	d := p.desks["main"]
	main := d.weight
	if d.work = (work{}); p.survey() != api.OK || p.need(nil, effort{}) != blocks(p.room.top.bytes+24*12) {
		t.Error(p.need(nil, effort{}))
	}
	p.room.top.bytes = 500
	if n := p.need(d, effort{kind: step.Create}); n != blocks(main.bytes+100)+blocks(500+24*12+20*1) {
		t.Error(n)
	}
	d.weight, d.weighed, d.work = weight{10000, 40}, true, work{100, 30}
	p.desks["other"] = &desk{tree: d.tree, weight: weight{300, 1}, work: work{100, 18}}
	must := 30 + blocks(400) + blocks(500+24*12+20*31)
	if n := p.need(nil, effort{}); n != must {
		t.Error(n, must)
	}
	must = blocks(10200) + blocks(400) + blocks(500+24*12+20*(40+1))
	d.work.blocks = 70
	for parts := 1; parts < 3; parts++ {
		for more := range 3 {
			p.room.places = parts*must - 1 + more
			if ok, e := p.fits(d, effort{kind: step.Create}, parts); ok != (more > 0) || e != api.OK {
				t.Error(parts, more, ok, e)
			}
		}
	}
	delete(p.desks, "other")

	for i := range 8 {
		a, e := p.store.Put(make([]byte, 1))
		if b, f := p.store.Put(make([]byte, 1024)); e != api.OK || f != api.OK || i%2 == 0 && p.store.Give(b) != api.OK || i%2 == 1 && p.store.Give(a) != api.OK {
			t.Fatal(i)
		}
	}
	must = p.rows()
	n, e := p.places()
	p.store.Settle()
	if m, f := p.places(); n != m || n != must || n < 90 || e != api.OK || f != api.OK {
		t.Error(n, m, must)
	}
}

// rows is how many rows of twenty cells, those of the greatest block on five drives, aren't used.
func (p *Pool) rows() int {
	used := make([]int, p.array.Cells())
	for _, r := range p.store.Used() {
		for at := r.From; at < r.To; at++ {
			used[at] = 1
		}
	}
	n, row := 0, 0
	for _, is := range used {
		if row++; is == 1 {
			row = 0
		}
		if row == 20 {
			row = 0
			n++
		}
	}
	return n
}

// A dataset without anything, as none that a pool makes is: its root directory is written by the next transaction, and reckoned with.
func TestEmptySet(t *testing.T) {
	p := tight(t, 5, 2000)
	if p.sets.Create("empty") != api.OK || p.Sync() != api.OK {
		t.Fatal("Create")
	}
	before := p.need(nil, effort{})
	d, e := p.desk("empty")
	if e != api.OK || d.work == (work{}) || p.need(nil, effort{}) <= before {
		t.Fatal(e, d)
	}
	if d, e := p.desk("main"); e != api.OK || d.work != (work{}) {
		t.Fatal(e, d)
	}
	p, e = Import(p.rack, 40)
	if e != api.OK {
		t.Fatal(e)
	}
	for i := range 2 {
		if x := p.Call("empty", step.Call{Kind: step.Create, Path: fmt.Sprint("/", i)}); x.N != 2+i || p.Sync() != api.OK {
			t.Fatal(x)
		}
	}
}
