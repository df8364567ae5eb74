package dataset

import (
	"cmp"
	"math"
	"slices"

	"hoard/api"
	"hoard/store"
	"hoard/tree"
)

// Open: the datasets of a root, in a store.
func Open(s *store.Store, root api.Ptr) (*Sets, api.Errno) {
	top, e := tree.Open(s, root)
	if e != api.OK {
		return nil, e
	}
	pairs, e := top.Range("", "", math.MaxInt)
	if e != api.OK {
		return nil, e
	}
	l, e := recordsOf(pairs)
	if e != api.OK {
		return nil, e
	}
	sets, e := setsOf(l)
	if e != api.OK {
		return nil, e
	}
	d := &Sets{store: s, top: top, sets: sets, least: root.Birth}
	for _, x := range sets {
		if x.tree, e = tree.Open(s, x.root); e != api.OK {
			return nil, e
		}
	}
	return d, api.OK
}

// Reach: all blocks that a root needs.
func Reach(s *store.Store, root api.Ptr) ([]api.Ptr, api.Errno) {
	d, e := Open(s, root)
	if e != api.OK {
		return nil, e
	}
	l, e := tree.Blocks(s, root)
	if e != api.OK {
		return nil, e
	}
	for _, r := range records(d.sets) {
		some, e := tree.Blocks(s, r.root)
		if e != api.OK {
			return nil, e
		}
		l = append(l, some...)
	}
	slices.SortFunc(l, byAddress)
	return slices.Compact(l), api.OK
}

// byAddress is an order of blocks in which each stands beside what is the same.
func byAddress(p, q api.Ptr) int {
	return cmp.Or(cmp.Compare(p.Addr, q.Addr), cmp.Compare(p.Size, q.Size), cmp.Compare(p.Birth, q.Birth), cmp.Compare(p.Sum, q.Sum))
}
