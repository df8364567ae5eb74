package dataset

import (
	"maps"
	"math"
	"slices"
	"strings"

	"hoard/api"
	"hoard/dead"
	"hoard/tree"
)

// Snapshot: a dataset as it is.
func (d *Sets) Snapshot(name string) api.Errno {
	if d.none() {
		return api.ErrArg
	}
	if _, isSnap := Name(name); !isSnap {
		return api.ErrName
	}
	x, which := find(d.sets, name)
	switch {
	case x == nil:
		return api.ErrMiss
	case which >= 0:
		return api.ErrThere
	case d.isFull():
		return api.ErrBig
	}
	if e := d.begin(); e != api.OK {
		return e
	}
	txg := d.store.Txg()
	if txg == math.MaxInt {
		// There is no next one, as the store would tell when all else is done.
		return api.ErrArg
	}
	if e := d.write(x); e != api.OK {
		return e
	}
	line, e := dead.Snapshot(x.line, txg)
	if e != api.OK {
		return e
	}
	x.line = line
	x.snaps = append(x.snaps, snap{strings.Clone(name), x.root})
	if e := d.give(); e != api.OK {
		return e
	}
	return d.store.Begin(txg + 1)
}

// Destroy: a dataset or a snapshot is there no longer.
func (d *Sets) Destroy(name string) api.Errno {
	if d.none() {
		return api.ErrArg
	}
	isSet, isSnap := Name(name)
	x, which := find(d.sets, name)
	switch {
	case !isSet && !isSnap:
		return api.ErrName
	case x == nil || isSnap && which < 0:
		return api.ErrMiss
	case isSet:
		return d.destroySet(name, x)
	}
	return d.destroySnap(x, which)
}

// destroySet ends a dataset.
func (d *Sets) destroySet(name string, x *set) api.Errno {
	if len(x.snaps) > 0 {
		return api.ErrBusy
	}
	l, e := tree.Blocks(d.store, x.root)
	if e != api.OK {
		return e
	}
	for _, p := range l {
		// The older ones are those of the snapshot that it was cloned from.
		if p.Birth > x.line.Base {
			d.left = append(d.left, p)
		}
	}
	delete(d.sets, name)
	return d.give()
}

// destroySnap ends a snapshot.
func (d *Sets) destroySnap(x *set, which int) api.Errno {
	for _, y := range d.sets {
		if y.origin == x.snaps[which].name {
			return api.ErrBusy
		}
	}
	line, free, e := dead.Destroy(x.line, which)
	if e != api.OK {
		return e
	}
	x.line = line
	x.snaps = slices.Delete(x.snaps, which, which+1)
	d.left = append(d.left, free...)
	return d.give()
}

// Sync: all that was changed is written; the root.
func (d *Sets) Sync() (api.Ptr, api.Errno) {
	if d.none() {
		return api.Ptr{}, api.ErrArg
	}
	if e := d.begin(); e != api.OK {
		return api.Ptr{}, e
	}
	for _, name := range slices.Sorted(maps.Keys(d.sets)) {
		if e := d.write(d.sets[name]); e != api.OK {
			return api.Ptr{}, e
		}
	}
	root, e := d.writeTop()
	if e != api.OK {
		return api.Ptr{}, e
	}
	// Only now: had it failed on the way, the older root would still have all its blocks.
	if e := d.give(); e != api.OK {
		return api.Ptr{}, e
	}
	return root, api.OK
}

// begin begins a transaction that is behind all that stands here, if the store isn't there yet: who needs a block is told by its birth alone.
func (d *Sets) begin() api.Errno {
	if d.store.Txg() >= d.least {
		return api.OK
	}
	return d.store.Begin(d.least)
}

// write syncs a dataset's tree. What it has no longer is left, or kept for a snapshot.
func (d *Sets) write(x *set) api.Errno {
	root, gone, e := x.tree.Sync()
	if e != api.OK {
		return e
	}
	x.root = root
	for _, p := range gone {
		p.Sum = "" // nobody asks for it when a block is given back, and lists of blocks are shorter without
		line, free, e := dead.Kill(x.line, p)
		if e != api.OK {
			return e
		}
		x.line = line
		if free {
			d.left = append(d.left, p)
		}
	}
	return api.OK
}

// writeTop syncs the tree in which all stands.
func (d *Sets) writeTop() (api.Ptr, api.Errno) {
	pairs, e := pairsOf(records(d.sets))
	if e != api.OK {
		return api.Ptr{}, e
	}
	if e := become(d.top, pairs); e != api.OK {
		return api.Ptr{}, e
	}
	root, gone, e := d.top.Sync()
	if e != api.OK {
		return api.Ptr{}, e
	}
	d.left = append(d.left, gone...)
	return root, api.OK
}

// become changes what isn't so yet, and nothing else, till a tree has just these pairs.
func become(t *tree.Tree, pairs []api.Pair) api.Errno {
	old, e := t.Range("", "", math.MaxInt)
	if e != api.OK {
		return e
	}
	for _, p := range old {
		if _, there := slices.BinarySearchFunc(pairs, p, byKey); there {
			continue
		}
		if e := t.Drop(p.Key); e != api.OK {
			return e
		}
	}
	for _, p := range pairs {
		if i, there := slices.BinarySearchFunc(old, p, byKey); there && old[i] == p {
			continue
		}
		if e := t.Put(p.Key, p.Val); e != api.OK {
			return e
		}
	}
	return api.OK
}

// give gives back what is left.
func (d *Sets) give() api.Errno {
	for ; len(d.left) > 0; d.left = d.left[1:] {
		if e := d.store.Give(d.left[0]); e != api.OK {
			return e
		}
	}
	d.left = nil
	return api.OK
}
