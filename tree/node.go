package tree

import (
	"cmp"
	"math/bits"
	"slices"

	"hoard/api"
	"hoard/store"
)

// A level is how many blocks stand above a pair, from the node on; a pair's own is 0.
const (
	pair    = 0
	leaf    = 1
	deepest = 10
	unread  = deepest + 1 // of a root that wasn't read yet
)

// node is a part of a tree. It is never changed once it is made: trees and their copies share it.
type node struct {
	level int
	items []item // rising
}

// item is what a node holds: a leaf pairs, another one nodes of the next level, each with the least key below it.
type item struct {
	key, val string
	down     link
}

// link is the way to a node: where it is written, or itself, if it isn't.
type link struct {
	at    api.Ptr
	fresh *node
}

// empty: does it lead to no node at all, as in the tree without pairs?
func (l link) empty() bool { return l == link{} }

// place is a way to a node, and what must hold of the node there: its level, its least key, and that its keys are below one. (A key that is empty demands nothing.)
type place struct {
	link
	level        int
	least, below string
}

// rooted is a root's place.
func rooted(l link) place { return place{link: l, level: unread} }

// load is the node of a place: as it is, if it isn't written, else as it is read.
func load(s *store.Store, p place) (*node, api.Errno) {
	if p.fresh != nil {
		return p.fresh, api.OK
	}
	b, e := s.Get(p.at)
	if e != api.OK {
		return nil, e
	}
	n, e := parse(b)
	if e != api.OK {
		return nil, e
	}
	if !n.fits(p) {
		return nil, api.ErrForm
	}
	return n, api.OK
}

// fits: does a node that was read hold what its place demands, and enough, if it isn't the root? (So a way through a tree is short, and meets no block twice, whatever the blocks hold.)
func (n *node) fits(p place) bool {
	first, last := n.items[0].key, n.items[len(n.items)-1].key
	return (p.level == unread || p.level == n.level && size(n.level, n.items) >= light) &&
		(p.least == "" || p.least == first) &&
		(p.below == "" || last < p.below)
}

// place is that of the node below one of its items, if all its own keys are below one.
func (n *node) place(i int, below string) place {
	x := n.items[i]
	if i+1 < len(n.items) {
		below = n.items[i+1].key
	}
	return place{link: x.down, level: n.level - 1, least: x.key, below: below}
}

// find is where a key's pair stands in a leaf, or where it would; in another node it is the item below which it stands, or would.
func (n *node) find(key string) (int, bool) {
	i, there := slices.BinarySearchFunc(n.items, key, func(x item, key string) int { return cmp.Compare(x.key, key) })
	if n.level > leaf && !there {
		i = max(i-1, 0)
	}
	return i, there
}

// The sizes of what a block holds, in bytes.
const (
	room  = api.MaxBlock - head
	head  = 2                              // the level
	light = room / 3                       // a node with less is joined with one beside it; two that are cut of one have more
	way   = 2 + 11 + 3 + 11 + 2 + sumBytes // a pointer: at most so many, wherever it will lie
)

// sumBytes: a sum has so many bytes.
const sumBytes = 32

// textSize is what a text takes in a block.
func textSize(s string) int {
	return 1 + max(1, (bits.Len(uint(len(s)))+6)/7) + len(s)
}

// size is what a node's items take in a block, or a little more: where a node is to lie, and so the size of its pointer, is told by the store alone.
func size(level int, l []item) int {
	sum := 0
	for _, x := range l {
		sum += textSize(x.key)
		if level == leaf {
			sum += textSize(x.val)
		} else {
			sum += way
		}
	}
	return sum
}

// nodesOf makes nodes of items, as items of the level above: none of none, one where there is room, else more, of about one size.
func nodesOf(level int, l []item) []item {
	whole := size(level, l)
	if len(l) == 0 {
		return nil
	}
	if whole <= room {
		return []item{fresh(level, l)}
	}
	i, left := 0, 0
	// An item goes to that side where most of it lies.
	for s := size(level, l[:1]); 2*left+s < whole; s = size(level, l[i:i+1]) {
		left += s
		i++
	}
	return append(nodesOf(level, l[:i]), nodesOf(level, l[i:])...)
}

// fresh is a new node, as an item of the level above.
func fresh(level int, l []item) item {
	return item{key: l[0].key, down: link{fresh: &node{level, l}}}
}
