package pool

import (
	"cmp"
	"maps"
	"slices"

	"hoard/api"
	"hoard/dataset"
	"hoard/label"
	"hoard/store"
)

// nothing is a change that changes nothing: of the transaction alone.
func nothing() api.Errno { return api.OK }

// change does a change, and a transaction: wholly, or not at all. What is broken off on the way is undone by a copy: that of all that lasts, with all that was done since.
func (p *Pool) change(do func() api.Errno) api.Errno {
	if p.failed() > api.MaxBad {
		return api.ErrIO
	}
	e := do()
	if e != api.OK && refuses(e) {
		return e
	}
	if e == api.OK {
		e = p.commit()
	}
	if e != api.OK {
		p.breakOff(e)
	}
	return e
}

// refuses: does a layer that answers this have changed nothing, so that it may go on?
func refuses(e api.Errno) bool {
	switch e {
	case api.ErrSpace, api.ErrIO, api.ErrDown:
		return false
	}
	return true
}

// breakOff notes that a change was broken off by an error.
func (p *Pool) breakOff(e api.Errno) {
	p.stale = true
	p.down = p.down || e == api.ErrDown
}

// failed is how many drives are gone.
func (p *Pool) failed() int {
	n := 0
	for drive := range p.rack.Drives() {
		if p.rack.Gone(drive) {
			n++
		}
	}
	return n
}

// commit is a transaction.
func (p *Pool) commit() api.Errno {
	root, e := p.sets.Sync()
	if e != api.OK {
		return e
	}
	txg := p.store.Txg()
	if txg > lastTxg {
		return api.ErrArg
	}
	// What the record leads to must last ahead of it.
	if e := p.rack.Flush(); e != api.OK {
		return e
	}
	if _, e := label.Write(p.rack, label.Uber{Txg: txg, Root: root}); e != api.OK {
		return e
	}
	if e := p.rack.Flush(); e != api.OK {
		return e
	}
	p.root = root
	left := p.store.Settle()
	if e := p.log.Reset(txg); e != api.OK {
		return e
	}
	if e := p.store.Begin(txg + 1); e != api.OK {
		return e
	}
	p.deeds, p.logged = nil, 0
	p.room = room{}
	for _, d := range p.desks {
		d.written()
	}
	if left > 0 {
		p.aim()
	}
	return api.OK
}

// ready tells why a pool can't be asked, or OK. What a change that was broken off has left in memory is first opened anew.
func (p *Pool) ready() api.Errno {
	switch {
	case p.none():
		return api.ErrArg
	case p.down:
		return api.ErrDown
	case p.stale:
		return p.reopen(p.store.Txg())
	}
	return api.OK
}

// reopen opens what the last transaction left, does anew what was done since, and goes on with it in this transaction.
func (p *Pool) reopen(txg int) api.Errno {
	s, e := p.stock(txg)
	if e != api.OK {
		return e
	}
	sets, e := dataset.Open(s, p.root)
	if e != api.OK {
		return e
	}
	desks := map[string]*desk{}
	for _, name := range slices.Sorted(maps.Keys(p.desks)) {
		if desks[name], e = open(s, sets, name); e != api.OK {
			return e
		}
	}
	for _, text := range p.deeds {
		if e := again(s, sets, desks, text); e != api.OK {
			return e
		}
	}
	p.store, p.sets, p.room, p.stale = s, sets, room{}, false
	for _, name := range slices.Sorted(maps.Keys(desks)) {
		p.seat(name, desks[name])
	}
	return api.OK
}

// again does anew what an intent says.
func again(s *store.Store, sets *dataset.Sets, desks map[string]*desk, text string) api.Errno {
	name, x, ok := parse(text)
	if isSet, _ := dataset.Name(name); !ok || !isSet {
		return api.ErrForm
	}
	if desks[name] == nil {
		d, e := open(s, sets, name)
		if e != api.OK {
			return e
		}
		desks[name] = d
	}
	desks[name].bear(effortOf(x.Call))
	return redo(desks[name].world, x)
}

// stock is a store of the blocks that the last transaction's root needs: all other cells are free.
func (p *Pool) stock(txg int) (*store.Store, api.Errno) {
	blank, e := store.New(p.array, nil, txg)
	if e != api.OK {
		return nil, e
	}
	blocks, e := dataset.Reach(blank, p.root)
	if e != api.OK {
		return nil, e
	}
	slices.SortFunc(blocks, func(a, b api.Ptr) int { return cmp.Compare(a.Addr, b.Addr) })
	used := blank.Used() // none yet
	for _, b := range blocks {
		n, e := p.array.Cost(b.Size)
		if e != api.OK {
			return nil, e
		}
		used = append(used, struct{ From, To int }{b.Addr, b.Addr + n})
	}
	return store.New(p.array, used, txg)
}
