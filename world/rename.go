package world

import (
	"slices"
	"strings"

	"hoard/api"
)

// Rename: another name in the place of one.
func (w *World) Rename(from, to string) api.Errno {
	if w.none() {
		return api.ErrArg
	}
	for _, path := range []string{from, to} {
		if l, e := Names(path); e != api.OK || len(l) == 0 {
			return api.ErrName
		}
	}
	p, e := w.there(from)
	if e != api.OK {
		return e
	}
	if p.is.Kind == directory && strings.HasPrefix(to, from+"/") {
		return api.ErrLoop
	}
	q, e := w.place(to)
	if e != api.OK {
		return e
	}
	// A directory has one path alone.
	if p.is.Ino == q.is.Ino {
		return api.OK
	}
	return w.move(p, q)
}

// move gives what is in a place the name of another one.
func (w *World) move(p, q place) api.Errno {
	if e := w.yields(q.is, p.is); e != api.OK {
		return e
	}
	if e := w.fits(p.is, q.depth); e != api.OK {
		return e
	}
	return w.change(func(d *draft) {
		d.drop(p.key())
		d.put(q.key(), number(p.is.Ino))
		if q.taken() {
			d.release(q.is)
		}
	})
}

// yields tells why something (Info{}: nothing) doesn't leave its name to another one, or OK.
func (w *World) yields(x, to Info) api.Errno {
	switch {
	case x == Info{}:
		return api.OK
	case x.Kind == directory && to.Kind == file:
		return api.ErrDir
	case x.Kind == file && to.Kind == directory:
		return api.ErrFile
	case x.Kind == directory:
		return w.empty(x.Ino)
	}
	return api.OK
}

// fits: ErrBig if something below a directory would have too long a path, were its own one of so many names.
func (w *World) fits(x Info, depth int) api.Errno {
	if x.Kind == file {
		return api.OK
	}
	level := []int{x.Ino}
	for ; len(level) > 0; depth++ {
		names, dirs, e := w.below(level)
		if e != api.OK {
			return e
		}
		if names && depth == api.MaxDepth {
			return api.ErrBig
		}
		level = dirs
	}
	return api.OK
}

// below tells whether names are in some directories, and which directories have them.
func (w *World) below(level []int) (names bool, dirs []int, e api.Errno) {
	for _, ino := range level {
		l, e := content(w.tree, ino)
		if e != api.OK {
			return false, nil, e
		}
		for _, p := range l {
			names = true
			x, e := w.known(parseNumber(p.Val))
			if e != api.OK {
				return false, nil, e
			}
			if x.Kind == directory {
				dirs = append(dirs, x.Ino)
			}
		}
	}
	slices.Sort(dirs)
	return names, slices.Compact(dirs), api.OK
}
