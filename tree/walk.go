package tree

import (
	"slices"

	"hoard/api"
	"hoard/store"
)

// step is what a walk meets: a pair, or a node that it may enter.
type step struct {
	item
	level int
}

// walk goes through a tree in the order of its keys, and reads just those nodes that it enters.
type walk struct {
	store *store.Store
	ahead []step // what is met next is the last
}

// begin is a walk that stands at a root.
func begin(s *store.Store, root link) *walk {
	w := &walk{store: s}
	if !root.empty() {
		w.ahead = append(w.ahead, step{item{down: root}, unread})
	}
	return w
}

// more: is there a next one?
func (w *walk) more() bool { return len(w.ahead) > 0 }

// next is what is met next. (There is one.)
func (w *walk) next() step { return w.ahead[len(w.ahead)-1] }

// pass goes by it.
func (w *walk) pass() { w.ahead = w.ahead[:len(w.ahead)-1] }

// enter goes into it, a node: what is met next is in it, from a key on. (Of its nodes the first one may have lower keys too.)
func (w *walk) enter(from string) api.Errno {
	x := w.next()
	w.pass()
	p := place{link: x.down, level: x.level, least: x.key}
	if w.more() {
		p.below = w.next().key
	}
	n, e := load(w.store, p)
	if e != api.OK {
		return e
	}
	i, _ := n.find(from)
	for _, x := range slices.Backward(n.items[i:]) {
		w.ahead = append(w.ahead, step{x, n.level - 1})
	}
	return api.OK
}
