package pool

import (
	"strings"

	"hoard/api"
	"hoard/dataset"
	"hoard/step"
	"hoard/store"
	"hoard/tree"
	"hoard/world"
)

// desk is where the calls on a dataset, or a snapshot, are done: its world, and a machine that runs them.
type desk struct {
	tree    *tree.Tree
	world   *world.World
	machine *step.Machine
	clients [api.MaxClients]turn

	weight  weight // of the tree, as it was written last
	weighed bool   // false: it was written anew since
	work    work   // since it was written
}

// turn is what is known of a client's call.
type turn struct {
	effort effort
	steps  int
	broken api.Errno // why it was undone, behind its effect; OK: it wasn't
}

// open is the desk of a dataset, or of a snapshot.
func open(s *store.Store, sets *dataset.Sets, name string) (*desk, api.Errno) {
	t, e := sets.Tree(name)
	if e != api.OK {
		return nil, e
	}
	d := &desk{tree: t}
	if e := d.weigh(s); e != api.OK {
		return nil, e
	}
	if d.world, e = world.New(t); e != api.OK {
		return nil, e
	}
	if t.Dirty() {
		d.bear(effort{kind: step.Mkdir}) // the root directory of a world without anything
	}
	if d.machine, e = step.New(d.world); e != api.OK {
		return nil, e
	}
	return d, api.OK
}

// desk is that of a dataset or a snapshot of the pool.
func (p *Pool) desk(name string) (*desk, api.Errno) {
	if d := p.desks[name]; d != nil {
		return d, api.OK
	}
	d, e := open(p.store, p.sets, name)
	if e != api.OK {
		return nil, e
	}
	p.desks[strings.Clone(name)] = d
	return d, api.OK
}

// seat has a desk that was opened anew take an older one's place. The older one's machine stays, with its descriptors and its clients' calls: the world that it asks is another one now.
func (p *Pool) seat(name string, d *desk) {
	old := p.desks[name]
	if old == nil {
		p.desks[name] = d
		return
	}
	*old.world = *d.world
	old.tree, old.weight, old.weighed, old.work = d.tree, d.weight, d.weighed, d.work
}

// note takes what a machine did to the deeds.
func (p *Pool) note(name string, d *desk) {
	for _, x := range d.machine.Deeds() {
		p.deeds = append(p.deeds, spell(name, x))
		d.bear(effortOf(x.Call))
	}
}

// bear notes that a call was done.
func (d *desk) bear(x effort) { d.work = d.work.with(d.weight, x) }

// written notes that all was written.
func (d *desk) written() {
	d.work = work{}
	d.weighed = false
}
