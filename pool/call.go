package pool

import (
	"hoard/api"
	"hoard/dataset"
	"hoard/step"
)

// Call: a call on a dataset, or a snapshot.
func (p *Pool) Call(set string, c step.Call) step.Result {
	if e := p.ready(); e != api.OK {
		return step.Result{Err: e}
	}
	d, e := p.desk(set)
	if e != api.OK {
		return step.Result{Err: e}
	}
	x := effortOf(c)
	if !x.changes() {
		return d.machine.Do(c)
	}
	if _, isSnap := dataset.Name(set); isSnap {
		return step.Result{Err: api.ErrBusy}
	}
	try, e := p.admit(d, x)
	if e != api.OK {
		return step.Result{Err: e}
	}
	r := d.machine.Do(c)
	p.note(set, d)
	if try {
		if e := p.tried(); e != api.OK {
			return step.Result{Err: e, Ticket: r.Ticket}
		}
	}
	return r
}

// tried is the transaction that follows a call for which there may be no room: the call is undone if there is none.
func (p *Pool) tried() api.Errno {
	if len(p.deeds) == 0 {
		return api.OK
	}
	e := p.change(nothing)
	if e != api.OK {
		p.deeds = nil
		p.breakOff(e)
	}
	return e
}

// dataset is the desk of a dataset.
func (p *Pool) dataset(set string) (*desk, api.Errno) {
	if e := p.ready(); e != api.OK {
		return nil, e
	}
	if isSet, _ := dataset.Name(set); !isSet {
		return nil, api.ErrName
	}
	return p.desk(set)
}

// turn is what is known of a client's call; of what is no client nothing is.
func (d *desk) turn(client int) *turn {
	if client < 0 || client >= len(d.clients) {
		return &turn{}
	}
	return &d.clients[client]
}

// Begin: a client begins a call on a dataset.
func (p *Pool) Begin(set string, client int, c step.Call) api.Errno {
	d, e := p.dataset(set)
	if e != api.OK {
		return e
	}
	if e := d.machine.Begin(client, c); e != api.OK {
		return e
	}
	d.turn(client).effort = effortOf(c)
	return api.OK
}

// effected: a client's call that has done so many steps has taken effect.
const effected = 2

// Step: a client's call goes one step on.
func (p *Pool) Step(set string, client int) (int, api.Errno) {
	d, e := p.dataset(set)
	if e != api.OK {
		return 0, e
	}
	x := d.turn(client)
	try := false
	// Room is looked for ahead of the lock too: a call without any would keep others from making it.
	if x.effort.changes() && x.steps < effected {
		if try, e = p.admit(d, x.effort); e != api.OK {
			return 0, e
		}
	}
	n, e := d.machine.Step(client)
	if e != api.OK {
		return 0, e
	}
	x.steps = n
	p.note(set, d)
	if try {
		x.broken = p.tried()
	}
	return n, api.OK
}

// Result: what a client's call came to.
func (p *Pool) Result(set string, client int) (step.Result, api.Errno) {
	d, e := p.dataset(set)
	if e != api.OK {
		return step.Result{}, e
	}
	r, e := d.machine.Result(client)
	if e != api.OK {
		return step.Result{}, e
	}
	x := d.turn(client)
	if x.broken != api.OK {
		r = step.Result{Err: x.broken, Ticket: r.Ticket}
	}
	*x = turn{}
	return r, api.OK
}
