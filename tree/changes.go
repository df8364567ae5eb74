package tree

import (
	"cmp"

	"hoard/api"
	"hoard/store"
)

// Change is what became of a key: New, if it has a value now (Val).
type Change struct {
	Key, Val string
	New      bool
}

// Changes: what became of keys from one root to another.
func Changes(s *store.Store, old, root api.Ptr) ([]Change, api.Errno) {
	if s == nil {
		return nil, api.ErrArg
	}
	var l []Change
	a, b := begin(s, link{at: old}), begin(s, link{at: root})
	for a.more() || b.more() {
		e := api.OK
		switch order := ahead(a, b); {
		case order < 0 && a.next().level == pair:
			l = append(l, Change{Key: a.next().key})
			a.pass()
		case order > 0 && b.next().level == pair:
			l = append(l, Change{Key: b.next().key, Val: b.next().val, New: true})
			b.pass()
		case order < 0:
			e = a.enter("")
		case order > 0:
			e = b.enter("")
		default:
			if x := b.next(); x.level == pair && x.val != a.next().val {
				l = append(l, Change{Key: x.key, Val: x.val, New: true})
			}
			a.pass()
			b.pass()
		}
		if e != api.OK {
			return nil, e
		}
	}
	return l, api.OK
}

// ahead tells which of two walks has to go on first: that one whose next key is lower (-1 the first, 1 the second); of one key, that which has to enter a node to come to what the other one meets. 0: both are at one key's pairs, or at one block, which needn't be read.
func ahead(a, b *walk) int {
	if !a.more() || !b.more() {
		return cmp.Compare(len(b.ahead), len(a.ahead))
	}
	x, y := a.next(), b.next()
	if x.key != y.key {
		return cmp.Compare(x.key, y.key)
	}
	if x.level != y.level {
		return cmp.Compare(y.level, x.level)
	}
	if x.level == pair || x.down.at == y.down.at {
		return 0
	}
	return -1
}
