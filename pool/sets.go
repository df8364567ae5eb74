package pool

import (
	"strings"

	"hoard/api"
	"hoard/dataset"
	"hoard/stream"
	"hoard/world"
)

// List: all datasets and snapshots.
func (p *Pool) List() ([]string, api.Errno) {
	if e := p.ready(); e != api.OK {
		return nil, e
	}
	return p.sets.List()
}

// busy: is a client's call on a dataset not over?
func (p *Pool) busy(set string) bool {
	d := p.desks[set]
	return d != nil && !d.machine.Idle()
}

// Snapshot: a dataset as it is.
func (p *Pool) Snapshot(name string) api.Errno {
	if e := p.ready(); e != api.OK {
		return e
	}
	if _, isSnap := dataset.Name(name); !isSnap {
		return api.ErrName
	}
	set, _, _ := strings.Cut(name, "@")
	if _, e := p.sets.Tree(set); e != api.OK {
		return e
	}
	if p.busy(set) {
		return api.ErrBusy
	}
	return p.grow(func() api.Errno { return p.sets.Snapshot(name) })
}

// Clone: a dataset that begins as a snapshot.
func (p *Pool) Clone(snap, name string) api.Errno {
	if e := p.ready(); e != api.OK {
		return e
	}
	return p.grow(func() api.Errno { return p.sets.Clone(snap, name) })
}

// Destroy: a dataset or a snapshot is there no longer.
func (p *Pool) Destroy(name string) api.Errno {
	if e := p.ready(); e != api.OK {
		return e
	}
	if _, e := p.sets.Tree(name); e != api.OK {
		return e
	}
	if name == firstSet || p.busy(name) {
		return api.ErrBusy
	}
	e := p.change(func() api.Errno { return p.sets.Destroy(name) })
	if e == api.OK {
		delete(p.desks, name)
	}
	return e
}

// Send: a snapshot as a stream, from another one on, or whole.
func (p *Pool) Send(from, to string) ([]byte, api.Errno) {
	if e := p.ready(); e != api.OK {
		return nil, e
	}
	_, toSnap := dataset.Name(to)
	_, fromSnap := dataset.Name(from)
	if !toSnap || !fromSnap && from != "" {
		return nil, api.ErrName
	}
	var old api.Ptr
	if from != "" {
		at, _, e := p.sets.Root(from)
		if e != api.OK {
			return nil, e
		}
		old = at
	}
	root, _, e := p.sets.Root(to)
	if e != api.OK {
		return nil, e
	}
	return stream.Send(p.store, old, root)
}

// Receive: a dataset of a stream.
func (p *Pool) Receive(from, name string, b []byte) api.Errno {
	if e := p.ready(); e != api.OK {
		return e
	}
	return p.grow(func() api.Errno {
		e := p.begin(from, name)
		if e != api.OK {
			return e
		}
		if e = p.fill(name, b); e == api.OK || !refuses(e) {
			return e
		}
		// It was never written: nothing is left of it.
		if e := p.sets.Destroy(name); e != api.OK {
			return e
		}
		return e
	})
}

// begin is a new dataset, that begins as a snapshot, or (of an empty name) without pairs.
func (p *Pool) begin(from, name string) api.Errno {
	if from == "" {
		return p.sets.Create(name)
	}
	return p.sets.Clone(from, name)
}

// fill makes a dataset what a stream says, if that is a world.
func (p *Pool) fill(name string, b []byte) api.Errno {
	t, e := p.sets.Tree(name)
	if e != api.OK {
		return e
	}
	if e := stream.Receive(t, b); e != api.OK {
		return e
	}
	_, e = world.New(t)
	return e
}
