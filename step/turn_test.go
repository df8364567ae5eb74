package step_test

import (
	"math"
	"math/rand"
	"slices"
	"testing"

	"hoard/api"
	"hoard/step"
	"hoard/world"
)

// kinds are all kinds of calls, and some that are none.
var kinds = []int{math.MinInt, -1, 0, 1, 2, 3, 4, 5, 6, 7, 8, 9, 10, 11, 12, 13, 14, math.MaxInt}

// The chapter's example.
func TestExample(t *testing.T) {
	b := lay(t)
	b.begins(t, 0, path1(step.Create, "/f"))
	b.begins(t, 1, path1(step.Stat, "/f"))
	b.steps(t, 1, 1)
	b.steps(t, 0, 0)
	b.steps(t, 1, 2)
	b.steps(t, 1, 3)
	b.comes(t, 1, step.Result{Err: api.ErrMiss, Ticket: 1})
	b.steps(t, 0, 1)
	b.steps(t, 0, 2)
	b.steps(t, 0, 3)
	b.comes(t, 0, step.Result{N: 2, Ticket: 2})
}

// P15.1: what Begin, Step and Result refuse, in the order of their errors.
func TestTurns(t *testing.T) {
	b := lay(t)
	for _, client := range []int{math.MinInt, -1, 8, 9, math.MaxInt} {
		want(t, "Begin", b.Begin(client, path1(step.Stat, "/")), api.ErrArg)
		if n, e := b.Step(client); n != 0 || e != api.ErrArg {
			t.Error("Step", n, e)
		}
		b.noResult(t, client, api.ErrArg)
	}
	for client := range 8 {
		if n, e := b.Step(client); n != 0 || e != api.ErrMiss {
			t.Error("Step", n, e)
		}
		b.noResult(t, client, api.ErrMiss)
	}
	if !b.Idle() || b.Tickets() != 0 {
		t.Error("what was refused did something")
	}
	for client := range 8 {
		b.begins(t, client, path1(step.Stat, "/"))
	}
	for client := range 8 {
		if b.Idle() {
			t.Error("idle")
		}
		for steps := range 4 {
			if steps > 0 {
				b.steps(t, client, steps)
			}
			want(t, "Begin", b.Begin(client, path1(step.Create, "/x")), api.ErrBusy)
			if steps < 3 {
				b.noResult(t, client, api.ErrBusy)
			}
		}
		b.steps(t, client, 3) // stays so
		b.steps(t, client, 3)
		want(t, "Begin", b.Begin(client, path1(step.Create, "/x")), api.ErrBusy)
		b.comes(t, client, step.Result{Info: world.Info{Ino: 1, Kind: 2, Links: 1}, Ticket: client + 1})
		b.noResult(t, client, api.ErrMiss)
		if n, e := b.Step(client); n != 0 || e != api.ErrMiss {
			t.Error("Step", n, e)
		}
	}
	if !b.Idle() || b.Tickets() != 8 || len(b.Deeds()) != 0 {
		t.Error("what was refused did something")
	}
	b.begins(t, 7, path1(step.Stat, "/x"))
}

// P15.1: a call takes effect by its second step, neither ahead of it nor behind.
func TestEffect(t *testing.T) {
	b := lay(t)
	b.begins(t, 5, path1(step.Create, "/f"))
	there := func(steps int, must bool) {
		t.Helper()
		if x, _ := b.w.Look("/f"); (x.Ino == 2) != must || (b.Tickets() == 1) != must {
			t.Errorf("behind %d steps: %v, %d tickets", steps, x, b.Tickets())
		}
	}
	there(0, false)
	b.steps(t, 5, 1)
	there(1, false)
	b.steps(t, 5, 2)
	there(2, true)
	b.told(t, step.Deed{Call: path1(step.Create, "/f")}) // though its result isn't told yet
	b.steps(t, 5, 3)
	there(3, true)
	b.all(t, path1(step.Unlink, "/f"), path1(step.Mkdir, "/f"))
	b.comes(t, 5, step.Result{N: 2, Ticket: 1}) // as it was then
}

// P15.1: which calls share the lock: while a client's call of one kind holds it, one of another kind takes it, and is done in one go, just if both may share it.
func TestLock(t *testing.T) {
	for _, kind := range kinds {
		for _, other := range kinds {
			b := lay(t)
			c, d := path2(kind, "/f", "/g"), path2(other, "/f", "/g")
			free := shared(kind) && shared(other)
			b.begins(t, 0, c)
			b.begins(t, 1, d)
			b.Do(d) // a call without steps holds nothing
			tickets := b.Tickets()
			for steps := 1; steps <= 2; steps++ {
				b.steps(t, 0, steps)
				if tickets += steps - 1; free {
					b.Do(d)
					tickets++
				} else {
					b.busy(t, d)
					b.steps(t, 1, 0)
				}
				if b.Tickets() != tickets {
					t.Fatal(kind, other, b.Tickets())
				}
			}
			if free {
				b.steps(t, 1, 1)
			}
			b.steps(t, 0, 3)
			if !free {
				b.steps(t, 1, 1)
			}
			b.steps(t, 1, 2)
			b.steps(t, 1, 3)
			b.Do(c) // calls that are over hold nothing, though nobody asked for their results
			if b.Tickets() != tickets+2 {
				t.Fatal(kind, other, b.Tickets())
			}
		}
	}
}

// P15.1: a lock that several share is free when the last of them has left it.
func TestShared(t *testing.T) {
	b := lay(t)
	b.begins(t, 7, path1(step.Create, "/f"))
	for client := range 7 {
		b.begins(t, client, path1([]int{step.List, step.Stat, step.Read, 0}[client%4], "/"))
		b.steps(t, client, 1)
		b.steps(t, 7, 0)
		b.busy(t, path1(step.Mkdir, "/d"))
	}
	for _, client := range []int{3, 0, 6, 1, 5, 2, 4} {
		b.steps(t, 7, 0)
		b.steps(t, client, 2)
		b.busy(t, path1(step.Mkdir, "/d"))
		b.does(t, path1(step.List, "/"), step.Result{})
		b.steps(t, 7, 0)
		b.steps(t, client, 3)
	}
	b.steps(t, 7, 1)
	b.busy(t, path1(step.Stat, "/"))
	b.steps(t, 7, 2)
	b.busy(t, path1(step.Stat, "/f"))
	b.steps(t, 7, 3)
	b.does(t, path1(step.Stat, "/f"), step.Result{Info: world.Info{Ino: 2, Kind: 1, Links: 1}})
}

// act is a call that some client made, or that was done in one go.
type act struct {
	call  step.Call
	r     step.Result
	begun int // the greatest ticket that was told ahead of its beginning
}

// game is a machine whose clients step in any order, with a plain telling of how far each is.
type game struct {
	bed
	rnd   *rand.Rand
	steps [8]int // -1: there is no call
	acts  [8]act
	done  []act
	last  int // the greatest ticket of a result that was told
}

func newGame(t *testing.T, seed int) *game {
	t.Helper()
	return &game{bed: lay(t), rnd: rand.New(rand.NewSource(int64(seed))), steps: [8]int{-1, -1, -1, -1, -1, -1, -1, -1}}
}

// locked: is the lock held so that a call of this kind can't share it?
func (g *game) locked(kind int) bool {
	for client, n := range g.steps {
		if (n == 1 || n == 2) && !(shared(kind) && shared(g.acts[client].call.Kind)) {
			return true
		}
	}
	return false
}

// step holds a step of a client to what must be.
func (g *game) step(t *testing.T, client int) {
	t.Helper()
	if g.steps[client] < 0 {
		if n, e := g.Step(client); n != 0 || e != api.ErrMiss {
			t.Fatal("Step", n, e)
		}
		return
	}
	if n := g.steps[client]; n > 0 && n < 3 || n == 0 && !g.locked(g.acts[client].call.Kind) {
		g.steps[client]++
	}
	g.bed.steps(t, client, g.steps[client])
}

// begin begins a client's call, if it has none.
func (g *game) begin(t *testing.T, client int) {
	t.Helper()
	c := anyCall(g.rnd)
	if g.steps[client] >= 0 {
		want(t, "Begin", g.Begin(client, c), api.ErrBusy)
		return
	}
	g.begins(t, client, c)
	g.steps[client], g.acts[client] = 0, act{call: c, begun: g.last}
}

// result asks for a client's result.
func (g *game) result(t *testing.T, client int) {
	t.Helper()
	switch n := g.steps[client]; {
	case n < 0:
		g.noResult(t, client, api.ErrMiss)
	case n < 3:
		g.noResult(t, client, api.ErrBusy)
	default:
		r, e := g.Result(client)
		want(t, "Result", e, api.OK)
		x := g.acts[client]
		x.r = r
		g.end(t, x)
		g.steps[client] = -1
	}
}

// do does a call in one go.
func (g *game) do(t *testing.T) {
	t.Helper()
	c := anyCall(g.rnd)
	if g.locked(c.Kind) {
		g.busy(t, c)
		return
	}
	g.end(t, act{c, g.Do(c), g.last})
}

// end notes a call whose result is told: its ticket is behind all those that were told ahead of its beginning.
func (g *game) end(t *testing.T, x act) {
	t.Helper()
	if x.r.Ticket <= x.begun || x.r.Ticket > g.Tickets() {
		t.Fatalf("ticket %d, of %d, and %d was told ahead of its beginning", x.r.Ticket, g.Tickets(), x.begun)
	}
	g.last = max(g.last, x.r.Ticket)
	g.done = append(g.done, x)
}

// play does anything.
func (g *game) play(t *testing.T) {
	t.Helper()
	client := g.rnd.Intn(8)
	switch n := g.rnd.Intn(20); {
	case n < 4:
		g.begin(t, client)
	case n < 8:
		g.result(t, client)
	case n < 9:
		g.do(t)
	default:
		g.step(t, client)
	}
	if g.Idle() != (g.steps == [8]int{-1, -1, -1, -1, -1, -1, -1, -1}) {
		t.Fatal("Idle", g.Idle())
	}
}

// finish brings all to their end by eight rounds of three steps for each client.
func (g *game) finish(t *testing.T) {
	t.Helper()
	clients := g.rnd.Perm(8)
	byThree := g.rnd.Intn(2) == 0 // a client's three steps one behind the other, or the clients' first, then their second ones ..
	for range 8 {
		for i := range 24 {
			if byThree {
				g.step(t, clients[i/3])
			} else {
				g.step(t, clients[i%8])
			}
		}
	}
	for client, n := range g.steps {
		if n >= 0 && n != 3 {
			t.Fatalf("client %d stands behind %d steps", client, n)
		}
		g.result(t, client)
	}
	if !g.Idle() {
		t.Fatal("not idle")
	}
}

// holds holds the results to those of the calls done one by one, in the order of their tickets.
func (g *game) holds(t *testing.T) {
	t.Helper()
	slices.SortFunc(g.done, func(a, b act) int { return a.r.Ticket - b.r.Ticket })
	if len(g.done) != g.Tickets() {
		t.Fatalf("%d calls, %d tickets", len(g.done), g.Tickets())
	}
	p := newPlain(t)
	for i, x := range g.done {
		must, _ := p.do(x.call)
		must.Ticket = i + 1
		if !same(x.r, must) {
			t.Fatalf("%v: %v, not %v", x.call, x.r, must)
		}
	}
	if !slices.Equal(g.pairs(t), p.pairs(t)) {
		t.Fatal("another world")
	}
}

// P15.2, P15.3, P2: whatever steps of eight clients lie between one another, the results are those of the calls one by one, and every call comes to an end.
func TestClients(t *testing.T) {
	for seed := range 60 {
		g := newGame(t, seed)
		for range 5 {
			for range 150 {
				g.play(t)
			}
			g.finish(t)
		}
		g.holds(t)
	}
}

// P15.3: eight calls of any kinds, however far some of them are.
func TestRounds(t *testing.T) {
	for seed := range 150 {
		g := newGame(t, seed)
		for client := range 8 {
			g.begin(t, client)
		}
		for range g.rnd.Intn(20) {
			g.step(t, g.rnd.Intn(8))
		}
		g.finish(t)
		g.holds(t)
	}
}

// P15.3: eight calls that share the lock with nobody: one round is enough for one of them, whoever comes first.
func TestRoundsOfOne(t *testing.T) {
	g := newGame(t, 1)
	for client := range 8 {
		c := path1(step.Mkdir, "/"+string(rune('a'+client)))
		g.begins(t, client, c)
		g.steps[client], g.acts[client] = 0, act{call: c}
	}
	for round := range 8 {
		for range 3 {
			for client := 7; client >= 0; client-- {
				g.step(t, client)
			}
		}
		over := 0
		for _, n := range g.steps {
			if n == 3 {
				over++
			}
		}
		if over <= round {
			t.Fatalf("behind round %d %d are over", round, over)
		}
	}
	g.finish(t)
	g.holds(t)
}
