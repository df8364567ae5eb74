package shell

import (
	"hoard/api"
	"hoard/pool"
	"hoard/rack"
)

// bench is what a script's lines are done on.
type bench struct {
	rack *rack.Rack
	pool *pool.Pool // nil: it couldn't be imported; a nil one answers ErrArg
	logs int
}

// answer is the reply to a line.
func (b *bench) answer(line string) string {
	if set, c, e := Parse(line); e == api.OK {
		return Tell(c.Kind, b.pool.Call(set, c))
	}
	l := split(line)
	for _, k := range orders() {
		if l[0] != k.name {
			continue
		}
		if x, ok := k.read(l[1:]); ok {
			words, e := k.do(b, x)
			return reply(e, words...)
		}
	}
	return reply(api.ErrForm)
}

// copy receives as a dataset what is sent from one snapshot (or the empty name) to another.
func (b *bench) copy(from, to, name string) api.Errno {
	stream, e := b.pool.Send(from, to)
	if e != api.OK {
		return e
	}
	return b.pool.Receive(from, name, stream)
}

// scrub is a scrub to its end: what it met.
func (b *bench) scrub() ([]string, api.Errno) {
	c, e := b.pool.Scrub("")
	for end := false; !end && e == api.OK; {
		end, e = c.Step(1)
	}
	if e != api.OK {
		return nil, e
	}
	x := c.Report()
	return writeNumbers(x.Done, x.Wrong, x.Lost), api.OK
}

// arm arms the rack, which refuses nothing.
func (b *bench) arm(n int) api.Errno {
	b.rack.Arm(n)
	return api.OK
}

// crash crashes the rack, and imports its pool anew.
func (b *bench) crash(picks []int) (e api.Errno) {
	b.rack.Crash(picks)
	b.pool, e = pool.Import(b.rack, b.logs)
	return e
}
