package space

import "hoard/api"

// Replay: the space that a log leaves.
func Replay(cells int, l []Op) (*Space, api.Errno) {
	s, e := blank(cells)
	if e != api.OK {
		return nil, e
	}
	for _, o := range l {
		if !s.redo(o) {
			return nil, api.ErrForm
		}
	}
	return s, api.OK
}

// redo does what a line of a log says, if its cells are as they must be for it.
func (s *Space) redo(o Op) bool {
	r, ok := s.span(o.From, o.N)
	if !ok {
		return false
	}
	if o.Take {
		return s.move(r, isFree, isUsed)
	}
	return s.move(r, isUsed, isFree)
}

// Condense: the shortest log that leaves the same.
func Condense(cells int, l []Op) ([]Op, api.Errno) {
	s, e := Replay(cells, l)
	if e != api.OK {
		return nil, e
	}
	var short []Op
	for _, r := range s.parts[isUsed].ranges {
		short = append(short, Op{Take: true, From: r.From, N: r.size()})
	}
	return short, api.OK
}
