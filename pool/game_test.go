package pool_test

import (
	"iter"
	"math/rand"
	"slices"
	"strconv"
	"strings"
	"testing"

	"hoard/api"
	"hoard/pool"
	"hoard/rack"
	"hoard/scrub"
	"hoard/step"
)

// past is what an oracle was.
type past map[string]*side

// kept is what an oracle is now. (Trees' copies are cheap; worlds of them are made when they are wanted.)
func (o *oracle) kept() past {
	l := past{}
	for name, x := range o.sets {
		l[name] = &side{x: x.x.Copy(), origin: x.origin}
	}
	return l
}

// again is an oracle as it was.
func (l past) again(t *testing.T, o *oracle) *oracle {
	t.Helper()
	return (&oracle{o.s, l}).copy(t)
}

// game is a pool that is held against an oracle, whatever is done to both, to the drives, and to their power.
type game struct {
	*bed
	o     *oracle
	rnd   *rand.Rand
	bad   []int  // the drives that failed
	pasts []past // what was left behind each call, from the last one on that lasts
	power bool   // it may go off
	off   bool   // it went off: the pool is of no use
	small bool   // there may be no room
	scrub *scrub.Scrub
}

// newGame is one on new drives.
func newGame(t *testing.T, seed, drives, sectors, logs int) *game {
	t.Helper()
	g := &game{bed: lay(t, drives, sectors, logs), o: newOracle(t), rnd: rand.New(rand.NewSource(int64(seed)))}
	g.lasts()
	return g
}

// lasts notes that what is left now lasts.
func (g *game) lasts() { g.pasts = []past{g.o.kept()} }

// passes notes that something was left that needn't last.
func (g *game) passes() { g.pasts = append(g.pasts, g.o.kept()) }

// excused: is an error one for which the call needn't be done?
func (g *game) excused(t *testing.T, what string, e api.Errno, roomy bool) bool {
	t.Helper()
	switch {
	case e == api.ErrDown && g.power:
		g.off = true
		return true
	case e == api.ErrSpace && !roomy && g.small:
		return true
	case e == api.ErrSpace:
		n, all := g.Free()
		t.Fatalf("%s: no room, with %d of %d cells", what, n, all)
	}
	return false
}

// anySet is some dataset's or snapshot's name, or none.
func (g *game) anySet() string {
	if g.rnd.Intn(20) == 0 {
		return anyOf(g.rnd, []string{"", "no", "no@x", "main@no", "X", "a@", "main@a@b"})
	}
	return anyOf(g.rnd, g.o.names())
}

// anyCall is some call.
func (g *game) anyCall() step.Call {
	paths := []string{"/", "/a", "/a", "/b", "/c", "/a/b", "/a/c", "/b/a", "/b/b/b", "x"}
	kinds := []int{1, 1, 1, 1, 2, 2, 3, 3, 3, 3, 4, 5, 5, 6, 6, 6, 6, 6, 7, 8, 8, 9, 10, 11, 12, 13, 0, 14}
	return step.Call{
		Kind: anyOf(g.rnd, kinds),
		Path: anyOf(g.rnd, paths),
		To:   anyOf(g.rnd, paths),
		D:    1 + g.rnd.Intn(g.rnd.Intn(4)+1),
		Off:  g.rnd.Intn(anyOf(g.rnd, []int{3, 300, 4200})) - 1,
		N:    g.rnd.Intn(anyOf(g.rnd, []int{3, 300, 4200})) - 1,
		Data: strings.Repeat(anyOf(g.rnd, []string{"x", "y z"}), g.rnd.Intn(anyOf(g.rnd, []int{2, 300, 1400}))),
	}
}

// call is a call on a dataset or a snapshot.
func (g *game) call(t *testing.T) {
	t.Helper()
	set, c, roomy := g.anySet(), g.anyCall(), g.roomy()
	r := g.Call(set, c)
	if r.Err == api.ErrSpace && g.excused(t, "Call", r.Err, roomy) {
		if r.Ticket > 0 {
			g.o.call(set, step.Call{}) // this one takes a ticket too
		}
		return
	}
	must := g.o.call(set, c)
	g.passes()
	if !g.excused(t, "Call", r.Err, roomy) && !same(r, must) {
		t.Fatalf("Call(%q, %s): %s, not %s", set, brief(c), brief(r), brief(must))
	}
}

// client begins a client's call, or goes on with it.
func (g *game) client(t *testing.T) {
	t.Helper()
	set, n, c := g.anySet(), g.rnd.Intn(4), g.anyCall()
	m, f := g.o.machine(set)
	var e, must api.Errno
	var is, be any
	switch way := g.rnd.Intn(6); way {
	case 0, 1:
		e, must = g.Begin(set, n, c), f
		if f == api.OK {
			must = m.Begin(n, c)
		}
	case 2:
		r, x := g.Result(set, n)
		e, must = x, f
		if f == api.OK {
			var s step.Result
			s, must = m.Result(n)
			if !same(r, s) && e != api.ErrDown {
				t.Fatalf("Result(%q, %d): %s, not %s", set, n, brief(r), brief(s))
			}
		}
	default:
		is, e = g.Step(set, n)
		be, must = 0, f
		if f == api.OK {
			be, must = m.Step(n)
		}
	}
	g.passes()
	if !g.excused(t, "a client's call", e, false) && (e != must || is != be) {
		t.Fatalf("%q, %d: %v, %d, not %v, %d", set, n, is, e, be, must)
	}
}

// ends has clients' calls come to their ends.
func (g *game) ends(t *testing.T) {
	t.Helper()
	for range 9 {
		for _, set := range g.o.names() {
			m, e := g.o.machine(set)
			for n := range 4 {
				if e != api.OK {
					break
				}
				i, e := g.Step(set, n)
				j, f := m.Step(n)
				if !g.excused(t, "Step", e, false) && (i != j || e != f) {
					t.Fatalf("Step(%q, %d): %d, %d, not %d, %d", set, n, i, e, j, f)
				}
				g.passes()
				r, e := g.Result(set, n)
				s, f := m.Result(n)
				if !g.excused(t, "Result", e, false) && (!same(r, s) || e != f) {
					t.Fatalf("Result(%q, %d): %s, %d, not %s, %d", set, n, brief(r), e, brief(s), f)
				}
			}
		}
	}
}

// whole holds a call that makes a transaction, or is refused, to what it must answer.
func (g *game) whole(t *testing.T, what string, roomy bool, e api.Errno, must func() api.Errno) {
	t.Helper()
	if e == api.ErrSpace && g.excused(t, what, e, roomy) {
		return
	}
	f := must()
	g.passes()
	if g.excused(t, what, e, roomy) {
		return
	}
	if e != f {
		t.Fatalf("%s: %d, not %d", what, e, f)
	}
	if e == api.OK {
		g.lasts()
	}
}

// sets is a call on datasets and snapshots.
func (g *game) change(t *testing.T) {
	t.Helper()
	roomy := g.roomy()
	name := anyOf(g.rnd, []string{"a", "b", "c", "main", "B", ""})
	snap := anyOf(g.rnd, []string{"main", "main", "a", "b", "c"}) + "@" + anyOf(g.rnd, []string{"x", "y", "z"})
	switch g.rnd.Intn(9) {
	case 0, 1, 2:
		g.whole(t, "Snapshot", roomy, g.Snapshot(snap), func() api.Errno { return g.o.snapshot(t, snap) })
	case 3:
		from := g.anySet()
		g.whole(t, "Clone", roomy, g.Clone(from, name), func() api.Errno { return g.o.clone(t, from, name) })
	case 4, 5:
		gone := g.anySet()
		g.whole(t, "Destroy", roomy, g.Destroy(gone), func() api.Errno { return g.o.destroy(gone) })
	case 6, 7:
		g.streams(t, name)
	default:
		l, e := g.List()
		if !g.excused(t, "List", e, false) && (e != api.OK || !slices.Equal(l, g.o.names())) {
			t.Fatalf("List: %v, %d, not %v", l, e, g.o.names())
		}
	}
}

// streams sends something, and receives it.
func (g *game) streams(t *testing.T, name string) {
	t.Helper()
	from, to := g.anySet(), g.anySet()
	if g.rnd.Intn(2) == 0 {
		from = ""
	}
	b, e := g.Send(from, to)
	must, f := g.o.send(t, from, to)
	if g.excused(t, "Send", e, false) {
		return
	}
	if e != f || !slices.Equal(b, must) {
		t.Fatalf("Send(%q, %q): %d bytes, %d, not %d, %d", from, to, len(b), e, len(must), f)
	}
	if e != api.OK {
		return
	}
	base, roomy := from, g.roomy()
	if g.rnd.Intn(4) == 0 {
		base = g.anySet()
	}
	g.whole(t, "Receive", roomy, g.Receive(base, name, b), func() api.Errno { return g.o.receive(t, base, name, from, to) })
}

// last makes what was done last.
func (g *game) last(t *testing.T) {
	t.Helper()
	roomy := g.roomy()
	ok := func() api.Errno { return api.OK }
	if g.rnd.Intn(3) == 0 {
		g.whole(t, "Sync", roomy, g.Sync(), ok)
	} else {
		g.whole(t, "Fsync", roomy, g.Fsync(), ok)
	}
}

// looksAfter goes on with a scrub.
func (g *game) looksAfter(t *testing.T) {
	t.Helper()
	if g.scrub == nil {
		c, e := g.Scrub("")
		if g.excused(t, "Scrub", e, false) {
			return
		}
		want(t, "Scrub", e, api.OK)
		g.scrub = c
	}
	end, e := g.scrub.Step(g.rnd.Intn(9))
	if g.excused(t, "Step", e, false) {
		return
	}
	want(t, "Step", e, api.OK)
	if g.scrub.Report().Lost > 0 {
		t.Fatal(g.scrub.Report())
	}
	if end {
		g.scrub = nil
	}
}

// breaks makes a drive fail, if no more than two others have.
func (g *game) breaks(t *testing.T) {
	t.Helper()
	drive := g.rnd.Intn(g.r.Drives())
	if !slices.Contains(g.bad, drive) {
		if len(g.bad) == 3 {
			return
		}
		g.bad = append(g.bad, drive)
	}
	switch g.rnd.Intn(3) {
	case 0:
		g.r.Lose(drive)
	case 1:
		g.r.Replace(drive)
	default:
		for range 1 + g.rnd.Intn(300) {
			g.r.Rot(drive, g.rnd.Intn(g.r.Sectors()), g.rnd.Intn(1<<20))
		}
	}
}

// mend puts new drives in the place of those that are gone; behind a scrub and a transaction none has failed.
func (g *game) mend(t *testing.T) {
	t.Helper()
	for drive := range g.r.Drives() {
		if g.r.Gone(drive) {
			g.r.Replace(drive)
		}
	}
	c, e := g.Scrub("")
	if g.excused(t, "Scrub", e, false) {
		return
	}
	want(t, "Scrub", e, api.OK)
	for end := false; !end; {
		if end, e = c.Step(1 + g.rnd.Intn(20)); g.excused(t, "Step", e, false) {
			return
		}
		want(t, "Step", e, api.OK)
	}
	if c.Report().Lost > 0 {
		t.Fatal(c.Report())
	}
	roomy := g.roomy()
	e = g.Sync()
	g.whole(t, "Sync", roomy, e, func() api.Errno { return api.OK })
	if e == api.OK {
		g.bad = nil
	}
}

// fall is a crash, and an Import, which may be broken off by others.
func (g *game) fall(t *testing.T, fails bool) {
	t.Helper()
	g.scrub, g.off = nil, false
	for {
		g.bed.crash(g.rnd)
		if fails && g.rnd.Intn(2) == 0 {
			g.breaks(t)
		}
		if g.rnd.Intn(3) == 0 {
			g.r.Arm(g.rnd.Intn(60))
		}
		p, e := pool.Import(g.r, g.logs)
		if e == api.ErrDown {
			continue
		}
		want(t, "Import", e, api.OK)
		g.r.Arm(-1)
		g.Pool = p
		break
	}
	is, numbers := g.view(t), g.numbers(t)
	for _, l := range slices.Backward(g.pasts) {
		if o := l.again(t, g.o); o.view(t) == is && slices.Equal(o.numbers(t), numbers) {
			g.o = o
			want(t, "Sync", g.Sync(), api.OK)
			g.lasts()
			g.imports(t) // what was looked at took tickets
			return
		}
	}
	t.Fatalf("none of %d states:\n%.2000s", len(g.pasts), is)
}

// fills is a call that takes room, or gives some back.
func (g *game) fills(t *testing.T) {
	t.Helper()
	set, roomy := anyOf(g.rnd, g.o.names()), g.roomy()
	if strings.Contains(set, "@") {
		set = "main"
	}
	c := step.Call{Path: "/f" + strconv.Itoa(g.rnd.Intn(40)), D: 1 + g.rnd.Intn(8), N: g.rnd.Intn(4000)}
	c.Kind = anyOf(g.rnd, []int{1, 1, 3, 3, 4, 6, 6, 6, 6, 7, 9})
	c.Data = long(g.rnd.Intn(4097), g.rnd.Intn(5))
	r := g.Call(set, c)
	if r.Err == api.ErrSpace && g.excused(t, "Call", r.Err, roomy) {
		if r.Ticket > 0 {
			g.o.call(set, step.Call{})
		}
		return
	}
	must := g.o.call(set, c)
	g.passes()
	if !g.excused(t, "Call", r.Err, roomy) && !same(r, must) {
		t.Fatalf("Call(%q, %s): %s, not %s", set, brief(c), brief(r), brief(must))
	}
}

// P18.1, P18.2: a pool with little room: what there is no room for changes nothing, and there is room while two thirds of the cells are free; behind a crash it is as behind one of the calls.
func TestGameSmall(t *testing.T) {
	t.Parallel()
	none := 0
	for seed := range 10 {
		logs := 1 + seed*7%90
		g := newGame(t, seed, 5+seed%2, logs+400, logs)
		g.small = true
		for range 200 + g.rnd.Intn(400) {
			before := g.free()
			switch n := g.rnd.Intn(30); {
			case n < 25:
				g.fills(t)
			case n < 26:
				g.last(t)
			default:
				g.change(t)
			}
			if 3*before < 2*5*392 {
				none++
			}
		}
		if seed%2 == 0 {
			g.power = true
			g.r.Arm(g.rnd.Intn(200))
			for range 100 {
				if !g.off {
					g.fills(t)
				}
			}
		}
		g.crash(g.rnd)
		g.imports(t)
		is := g.view(t)
		if !slices.ContainsFunc(g.pasts, func(l past) bool { return l.again(t, g.o).view(t) == is }) {
			t.Fatalf("none of %d states:\n%.2000s", len(g.pasts), is)
		}
	}
	if none == 0 {
		t.Error("there was room always")
	}
}

// numbers are those that a new file gets in each dataset, which no other sight of these tells.
func (g *game) numbers(t *testing.T) []int {
	t.Helper()
	var l []int
	for set := range datasets(g.List()) {
		r := g.Call(set, one(step.Create, "/new"))
		want(t, "Create", r.Err, api.OK)
		g.all(t, set, one(step.Unlink, "/new"))
		l = append(l, r.N)
	}
	return l
}

// numbers are those of an oracle.
func (o *oracle) numbers(t *testing.T) []int {
	t.Helper()
	var l []int
	for set := range datasets(o.names(), api.OK) {
		n, e := o.sets[set].w.Make("/new", 1)
		want(t, "Make", e, api.OK)
		want(t, "Unlink", o.sets[set].w.Unlink("/new"), api.OK)
		l = append(l, n)
	}
	return l
}

// datasets are those names that aren't snapshots'.
func datasets(names []string, _ api.Errno) iter.Seq[string] {
	return func(yield func(string) bool) {
		for _, name := range names {
			if !strings.Contains(name, "@") && !yield(name) {
				return
			}
		}
	}
}

// P18.1, P18.4, P1, P2, P5: without crashes and failing drives all calls are answered as by files in memory, those of clients among them, whatever is snapshotted, cloned, sent, received and destroyed.
func TestGame(t *testing.T) {
	t.Parallel()
	for seed := range 40 {
		g := newGame(t, seed, 5+seed%4, 1500, 1+seed*seed%200)
		for range 700 {
			switch n := g.rnd.Intn(20); {
			case n < 10:
				g.call(t)
			case n < 15:
				g.client(t)
			case n < 16:
				g.last(t)
			case n < 17:
				g.looksAfter(t)
			case n < 18:
				g.ends(t)
			default:
				g.change(t)
			}
		}
		g.ends(t)
	}
}

// P18.1, P18.3, P4: up to three drives that are lost, replaced or rotten at a time change no answer; behind new drives, a scrub and a transaction others may fail.
func TestGameDrives(t *testing.T) {
	t.Parallel()
	for seed := range 40 {
		g := newGame(t, seed, 5+seed%3, 1500, 30)
		for range 400 {
			switch n := g.rnd.Intn(30); {
			case n < 16:
				g.call(t)
			case n < 18:
				g.last(t)
			case n < 20:
				g.looksAfter(t)
			case n < 22:
				g.breaks(t)
			case n < 23:
				g.mend(t)
			default:
				g.change(t)
			}
		}
	}
}

// P18.2, P18.3, P3, P4: behind crashes, in an Import too, with any picks, with drives that fail and are replaced, the pool is there as it was behind one of the calls, none ahead of the last that was made to last.
func TestGameCrashes(t *testing.T) {
	t.Parallel()
	for seed := range 60 {
		g := newGame(t, seed, 5+seed%3, 1500, 1+seed*5%200)
		g.power = true
		for range 400 {
			switch n := g.rnd.Intn(40); {
			case g.off:
				g.fall(t, seed%2 == 0)
			case n < 20:
				g.call(t)
			case n < 26:
				g.last(t)
			case n < 27:
				g.looksAfter(t)
			case n < 29 && seed%2 == 0:
				g.breaks(t)
			case n < 30 && seed%2 == 0:
				g.mend(t)
			case n < 32:
				g.r.Arm(g.rnd.Intn(anyOf(g.rnd, []int{10, 100, 400})))
			case n < 34:
				g.fall(t, seed%2 == 0)
			default:
				g.change(t)
			}
		}
		g.fall(t, seed%2 == 0)
	}
}

// offIs: is the power off?
func offIs(r *rack.Rack) bool {
	for drive := range r.Drives() {
		if _, e := r.Read(drive, 0); e == api.ErrDown {
			return true
		}
	}
	return false
}
