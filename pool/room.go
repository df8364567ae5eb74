package pool

import (
	"hoard/api"
	"hoard/step"
	"hoard/store"
	"hoard/tree"
)

// Calls change what is in memory; a transaction writes it. So that it never comes short of room, whatever was done, a call is admitted only if all blocks that may come of it and of those ahead have a place each: a row of free cells, enough for the greatest block.

// What a change does to a tree, at most.
const (
	perBlock  = 250 // bytes of pairs to a block, those above the leaves counted: but for the root, a block is a third full
	perCall   = 100 // bytes that a call adds to a world's tree, but for a file's
	perChunk  = 280 // bytes that a chunk adds
	perLevel  = 9   // blocks that a call changes on each level: beside each name, each number and a file's chunks
	perDead   = 20  // bytes that a block which a snapshot needs still adds to the datasets' tree
	perRecord = 24  // bytes by which a dataset's or a snapshot's record there grows
)

// kept: so many places are left to what makes room.
const kept = 24

// weight is what a written tree has.
type weight struct {
	bytes, blocks int
}

// weigh weighs a root's tree.
func weigh(s *store.Store, root api.Ptr) (weight, api.Errno) {
	l, e := tree.Blocks(s, root)
	if e != api.OK {
		return weight{}, e
	}
	w := weight{blocks: len(l)}
	for _, p := range l {
		w.bytes += p.Size
	}
	return w, api.OK
}

// levels is how many blocks stand above a pair: below the root, and below each other that isn't a leaf, there are four at least.
func (w weight) levels() int {
	n := 1
	for least := 3; least <= w.blocks; least = 4*least - 1 {
		n++
	}
	return n
}

// weigh weighs a desk's tree, if it was written since it was weighed.
func (d *desk) weigh(s *store.Store) api.Errno {
	if d.weighed || d.tree.Dirty() {
		return api.OK
	}
	root, _, e := d.tree.Sync() // it isn't changed: this tells the root alone
	if e != api.OK {
		return e
	}
	d.weight, e = weigh(s, root)
	d.weighed = e == api.OK
	return e
}

// effort is what is known of a call ahead of it: its kind, and how many chunks of a file it may write.
type effort struct {
	kind, chunks int
}

// effortOf is that of a call.
func effortOf(c step.Call) effort {
	x := effort{kind: c.Kind}
	if c.Kind == step.Write && c.Data != "" {
		x.chunks = min(len(c.Data)/api.Chunk+2, api.MaxChunks)
	}
	return x
}

// changes: does a call of this kind change a world?
func (x effort) changes() bool {
	switch x.kind {
	case step.Create, step.Mkdir, step.Write, step.Truncate, step.Rename, step.Unlink, step.Rmdir, step.Link:
		return true
	}
	return false
}

// frees: may it be that a call of this kind is done to make room?
func (x effort) frees() bool {
	return x.kind == step.Truncate || x.kind == step.Unlink || x.kind == step.Rmdir
}

// work is what calls come to in a tree: bytes that they add, and blocks that they change.
type work struct {
	bytes, blocks int
}

// with is the work with a call more, in a tree that was written with this weight.
func (k work) with(w weight, x effort) work {
	k.bytes += perCall + perChunk*x.chunks
	k.blocks += perLevel*(w.levels()+1) + x.chunks
	return k
}

// blocks is how many a tree with so many bytes of pairs has.
func blocks(bytes int) int { return 2 + bytes/perBlock }

// need is how many blocks of a tree are to be written, behind some work. (There are no more than there are in all of it.)
func (k work) need(w weight) int { return min(k.blocks, blocks(w.bytes+k.bytes)) }

// room is what the last transaction left.
type room struct {
	known  bool
	places int    // for blocks of the greatest size
	top    weight // of the tree in which all datasets stand
}

// survey looks for the room, if it isn't known.
func (p *Pool) survey() api.Errno {
	if p.room.known {
		return api.OK
	}
	top, e := weigh(p.store, p.root)
	if e != api.OK {
		return e
	}
	n, e := p.places()
	if e != api.OK {
		return e
	}
	p.room = room{known: true, places: n, top: top}
	return api.OK
}

// places is how many blocks of the greatest size have room, when what was given back is free.
func (p *Pool) places() (int, api.Errno) {
	n, e := p.array.Cost(api.MaxBlock)
	if e != api.OK {
		return 0, e
	}
	sum, free := 0, 0
	for _, r := range p.store.Used() {
		sum += (r.From - free) / n
		free = r.To
	}
	return sum + (p.array.Cells()-free)/n, api.OK
}

// grow is a change that takes room. It is undone where it would leave too little to what makes room.
func (p *Pool) grow(do func() api.Errno) api.Errno {
	roomy := p.roomy()
	return p.change(func() api.Errno {
		e := do()
		if e != api.OK || roomy {
			return e
		}
		if e = p.leaves(); e != api.OK {
			p.breakOff(e)
		}
		return e
	})
}

// leaves writes all that was changed. ErrSpace: it leaves too little room.
func (p *Pool) leaves() api.Errno {
	if _, e := p.sets.Sync(); e != api.OK {
		return e
	}
	n, e := p.places()
	if e == api.OK && n < kept {
		return api.ErrSpace
	}
	return e
}

// need is how many blocks the next transaction writes, with a call more on a desk.
func (p *Pool) need(on *desk, x effort) int {
	n, bytes := 0, p.room.top.bytes+perRecord*api.MaxSets
	for _, d := range p.desks {
		k := d.work
		if d == on {
			k = k.with(d.weight, x)
		}
		some := k.need(d.weight)
		n += some
		bytes += perDead * min(some, d.weight.blocks)
	}
	return n + blocks(bytes)
}

// fits: is there room for a call more on a desk, in one of so many parts of all places?
func (p *Pool) fits(on *desk, x effort, parts int) (bool, api.Errno) {
	if e := p.survey(); e != api.OK {
		return false, e
	}
	if e := on.weigh(p.store); e != api.OK {
		return false, e
	}
	return p.need(on, x) <= p.room.places/parts, api.OK
}

// admit makes room for a call that changes a world: by a transaction, where too much was done since the last one. Where it may be that there is none, it must be tried: the call is the only one since the last transaction then, and its own one is to follow at once. ErrSpace: there is no room.
func (p *Pool) admit(on *desk, x effort) (try bool, e api.Errno) {
	roomy := p.roomy()
	// Half of the room is left, so that what was done never takes that of a single call.
	ok, e := p.fits(on, x, 2)
	if e != api.OK || ok {
		return false, e
	}
	if len(p.deeds) > 0 {
		if e := p.change(nothing); e != api.OK {
			return false, e
		}
	}
	ok, e = p.fits(on, x, 1)
	switch {
	case e != api.OK || ok:
		return false, e
	case roomy || x.frees() || p.room.places > kept:
		return true, api.OK
	}
	return false, api.ErrSpace
}

// roomy: are two thirds of the cells free, so that no call may be refused for want of room?
func (p *Pool) roomy() bool { return 3*p.store.Free() >= 2*p.array.Cells() }
