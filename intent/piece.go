package intent

import (
	"hoard/api"
	"hoard/pack"
)

// piece is what a sector holds of an intent.
type piece struct {
	last bool
	text string
}

// pieceSize: a piece has at most so many bytes of an intent.
const pieceSize = 56

// mark is the number that tells a piece from other sectors.
const mark = 55

// number is an item.
func number(n int) api.Item { return api.Item{Kind: 1, N: n} }

// text is one too.
func text(s string) api.Item { return api.Item{Kind: 2, S: s} }

// Need: how many sectors an intent takes.
func Need(s string) int { return 1 + max(0, len(s)-1)/pieceSize }

// cut is an intent in pieces.
func cut(s string) []piece {
	var l []piece
	for len(s) > pieceSize {
		l = append(l, piece{text: s[:pieceSize]})
		s = s[pieceSize:]
	}
	return append(l, piece{last: true, text: s})
}

// spell is the sector of the piece number k behind a base.
func spell(base, k int, p piece) ([]byte, api.Errno) {
	last := 0
	if p.last {
		last = 1
	}
	return pack.Sector([]api.Item{number(mark), number(base), number(k), number(last), text(p.text)})
}

// parse is the piece number k behind a base, if it is that what a sector holds.
func parse(b []byte, base, k int) (p piece, ok bool) {
	l, e := pack.Unsector(b)
	if e != api.OK || len(l) != 5 || l[0] != number(mark) || l[1] != number(base) || l[2] != number(k) {
		return piece{}, false
	}
	p = piece{last: l[3] == number(1), text: l[4].S}
	if !p.last && l[3] != number(0) || l[4] != text(p.text) || len(p.text) > pieceSize {
		return piece{}, false
	}
	return p, true
}

// look is piece number k, as it stands on the least drive that has it. ErrMiss: none has.
func (l *Log) look(k int) (piece, api.Errno) {
	for drive := range l.rack.Drives() {
		b, e := l.rack.Read(drive, l.first+k)
		if e == api.ErrDown {
			return piece{}, e
		}
		// Of a drive that is gone there are no bytes, which are no sector.
		if p, ok := parse(b, l.base, k); ok {
			return p, api.OK
		}
	}
	return piece{}, api.ErrMiss
}

// write writes piece number k to all drives that aren't gone.
func (l *Log) write(k int, p piece) api.Errno {
	b, e := spell(l.base, k, p)
	if e != api.OK {
		return e
	}
	r := api.ErrIO
	for drive := range l.rack.Drives() {
		switch l.rack.Write(drive, l.first+k, b) {
		case api.OK:
			r = api.OK
		case api.ErrDown:
			return api.ErrDown
		}
	}
	return r
}
