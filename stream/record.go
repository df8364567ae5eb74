package stream

import (
	"hoard/api"
	"hoard/pack"
	"hoard/sha"
	"hoard/tree"
)

// The kinds of pack's items.
const (
	number = 1
	text   = 2
)

// mark is the number with which a stream begins.
const mark = 88

// sumSize: a digest has so many bytes.
const sumSize = 32

// record is what a stream says: what makes a tree of one digest one of another.
type record struct {
	from, to string
	changes  []tree.Change
}

// spell is a record's bytes. ErrBig: there are too many.
func spell(x record) ([]byte, api.Errno) {
	l := []api.Item{{Kind: number, N: mark}, {Kind: text, S: x.from}, {Kind: text, S: x.to}}
	for _, c := range x.changes {
		l = append(l, api.Item{Kind: text, S: c.Key})
		if c.New {
			l = append(l, api.Item{Kind: number, N: 1}, api.Item{Kind: text, S: c.Val})
		} else {
			l = append(l, api.Item{Kind: number, N: 0})
		}
	}
	b, e := pack.Encode(l)
	if e != api.OK {
		return nil, e
	}
	b = sha.Seal(b)
	if len(b) > api.MaxStream {
		return nil, api.ErrBig
	}
	return b, api.OK
}

// parse is the record of bytes. ErrForm: they are none's.
func parse(b []byte) (record, api.Errno) {
	if len(b) > api.MaxStream {
		return record{}, api.ErrForm
	}
	body, e := sha.Open(b)
	if e != api.OK {
		return record{}, api.ErrForm
	}
	l, e := pack.Decode(body)
	if e != api.OK || !headed(l) {
		return record{}, api.ErrForm
	}
	x := record{from: l[1].S, to: l[2].S}
	ahead := ""
	for l = l[3:]; len(l) > 0; {
		c, rest, ok := takeChange(l)
		if !ok || c.Key <= ahead {
			return record{}, api.ErrForm
		}
		x.changes = append(x.changes, c)
		ahead, l = c.Key, rest
	}
	return x, api.OK
}

// headed: do items begin as a stream's? (A number has no bytes, so that of digests the length tells enough.)
func headed(l []api.Item) bool {
	return len(l) >= 3 && l[0] == api.Item{Kind: number, N: mark} && len(l[1].S) == sumSize && len(l[2].S) == sumSize
}

// takeChange is the change with which items begin, and what is behind it. (There is at least one item.)
func takeChange(l []api.Item) (c tree.Change, rest []api.Item, ok bool) {
	key := l[0].S
	if len(l) < 2 || len(key) < 1 || len(key) > api.MaxKey || l[1].Kind != number {
		return tree.Change{}, nil, false
	}
	switch {
	case l[1].N == 0:
		return tree.Change{Key: key}, l[2:], true
	case l[1].N == 1 && len(l) > 2 && l[2].Kind == text && len(l[2].S) <= api.MaxVal:
		return tree.Change{Key: key, Val: l[2].S, New: true}, l[3:], true
	}
	return tree.Change{}, nil, false
}
