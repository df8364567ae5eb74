package tree

import (
	"slices"

	"hoard/api"
	"hoard/pack"
	"hoard/store"
)

// The kinds of pack's items.
const (
	number = 1
	text   = 2
)

// isKey: may a pair have this key?
func isKey(s string) bool { return len(s) >= 1 && len(s) <= api.MaxKey }

// isVal: may a pair have this value?
func isVal(s string) bool { return len(s) <= api.MaxVal }

// spell is a node's block: its level, and of each item the key, and the value or the pointer. (All its nodes are written.)
func spell(n *node) ([]byte, api.Errno) {
	l := []api.Item{{Kind: number, N: n.level}}
	for _, x := range n.items {
		s := x.val
		if n.level > leaf {
			p, e := pack.Ptr(x.down.at)
			if e != api.OK {
				return nil, e
			}
			s = p
		}
		l = append(l, api.Item{Kind: text, S: x.key}, api.Item{Kind: text, S: s})
	}
	return pack.Encode(l)
}

// parse is the node of a block. ErrForm: it is none's.
func parse(b []byte) (*node, api.Errno) {
	l, e := pack.Decode(b)
	if e != api.OK {
		return nil, e
	}
	// A text in the place of a number has the number 0, and a number in that of a text no bytes.
	if len(l) < 3 || len(l)%2 != 1 || l[0].N < leaf || l[0].N > deepest {
		return nil, api.ErrForm
	}
	n := &node{level: l[0].N}
	ahead := ""
	for two := range slices.Chunk(l[1:], 2) {
		x, ok := parseItem(n.level, two[0], two[1])
		if !ok || x.key <= ahead {
			return nil, api.ErrForm
		}
		ahead = x.key
		n.items = append(n.items, x)
	}
	if n.level > leaf && len(n.items) == 1 {
		return nil, api.ErrForm
	}
	return n, api.OK
}

// parseItem is what a key and what stands behind it are in a node.
func parseItem(level int, key, is api.Item) (x item, ok bool) {
	if is.Kind != text || !isKey(key.S) {
		return item{}, false
	}
	if level == leaf {
		return item{key: key.S, val: is.S}, isVal(is.S)
	}
	p, e := pack.Unptr(is.S)
	return item{key: key.S, down: link{at: p}}, e == api.OK
}

// write writes what isn't written, the lower blocks first, and tells the pointer. Beside an error all that was put is given back.
func write(s *store.Store, l link) (api.Ptr, api.Errno) {
	var done []api.Ptr
	p, e := put(s, l, &done)
	if e != api.OK {
		for _, p := range done {
			s.Give(p)
		}
		return api.Ptr{}, e
	}
	return p, api.OK
}

// put does so, and notes what it put.
func put(s *store.Store, l link, done *[]api.Ptr) (api.Ptr, api.Errno) {
	if l.fresh == nil {
		return l.at, api.OK
	}
	n := &node{l.fresh.level, slices.Clone(l.fresh.items)}
	for i, x := range n.items {
		if n.level == leaf {
			break
		}
		p, e := put(s, x.down, done)
		if e != api.OK {
			return api.Ptr{}, e
		}
		n.items[i].down = link{at: p}
	}
	b, e := spell(n)
	if e != api.OK {
		return api.Ptr{}, e
	}
	p, e := s.Put(b)
	if e == api.OK {
		*done = append(*done, p)
	}
	return p, e
}
