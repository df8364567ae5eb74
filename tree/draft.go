package tree

import (
	"slices"

	"hoard/api"
	"hoard/store"
)

// state is all that changes of a tree.
type state struct {
	root  link
	gone  []api.Ptr // what was written of the tree as it was opened, or synced last, and is left
	dirty bool
}

// draft is a state that a change works on.
type draft struct {
	store *store.Store
	state
}

// change does a change wholly, or not at all: it works on a copy, which takes the state's place if it is done.
func (t *Tree) change(do func(*draft) api.Errno) api.Errno {
	d := draft{t.store, t.state}
	if e := do(&d); e != api.OK {
		return e
	}
	t.state = d.state
	return api.OK
}

// rewrite makes a leaf's new pairs of its pairs, of where a key's pair stands there, or would, and of whether it is there.
type rewrite func(l []item, i int, there bool) ([]item, api.Errno)

// edit is a change of one key's pair.
func (d *draft) edit(key string, do rewrite) api.Errno {
	var top []item
	var e api.Errno
	if d.root.empty() {
		var l []item
		l, e = do(nil, 0, false)
		top = nodesOf(leaf, l)
	} else {
		top, e = d.descend(rooted(d.root), key, do)
	}
	if e != api.OK {
		return e
	}
	d.root = rootOf(top)
	d.dirty = true
	return api.OK
}

// rootOf is the way to a tree of nodes that take a root's place.
func rootOf(top []item) link {
	if len(top) == 0 {
		return link{}
	}
	for len(top) > 1 {
		top = nodesOf(top[0].down.fresh.level+1, top)
	}
	l := top[0].down
	if l.fresh.level > leaf && len(l.fresh.items) == 1 {
		return l.fresh.items[0].down
	}
	return l
}

// descend does an edit below a place: the nodes that are there then.
func (d *draft) descend(p place, key string, do rewrite) ([]item, api.Errno) {
	n, e := d.leave(p)
	if e != api.OK {
		return nil, e
	}
	i, there := n.find(key)
	var l []item
	if n.level == leaf {
		l, e = do(n.items, i, there)
	} else {
		l, e = d.descend(n.place(i, p.below), key, do)
		if e == api.OK {
			l, e = d.replace(n, p.below, i, l)
		}
	}
	if e != api.OK {
		return nil, e
	}
	return nodesOf(n.level, l), api.OK
}

// leave is the node of a place that another one is to take.
func (d *draft) leave(p place) (*node, api.Errno) {
	n, e := load(d.store, p)
	if e == api.OK && p.fresh == nil {
		d.gone = append(d.gone, p.at)
	}
	return n, e
}

// replace is a node's items with others in the place of one. (Where that is a single light one, it is joined with one beside it: there is one, as no node stands above less than two.)
func (d *draft) replace(n *node, below string, i int, l []item) ([]item, api.Errno) {
	if len(l) != 1 || size(n.level-1, l[0].down.fresh.items) >= light {
		return slices.Concat(n.items[:i], l, n.items[i+1:]), api.OK
	}
	beside := i - 1
	if i == 0 {
		beside = 1
	}
	m, e := d.leave(n.place(beside, below))
	if e != api.OK {
		return nil, e
	}
	first := min(i, beside)
	both := slices.Concat(m.items, l[0].down.fresh.items)
	if first == i {
		both = slices.Concat(l[0].down.fresh.items, m.items)
	}
	return slices.Concat(n.items[:first], nodesOf(m.level, both), n.items[first+2:]), api.OK
}
