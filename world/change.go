package world

import (
	"math"

	"hoard/api"
	"hoard/tree"
)

// draft is a tree that a change works on; behind a first error nothing more is done.
type draft struct {
	tree *tree.Tree
	e    api.Errno
}

// change does a change wholly, or not at all: what was done ahead of an error is undone by a copy, as that asks nothing of the drives.
func (w *World) change(do func(d *draft)) api.Errno {
	before := w.tree.Copy()
	d := &draft{tree: w.tree}
	do(d)
	if d.e != api.OK {
		*w.tree = *before
	}
	return d.e
}

// put puts a pair.
func (d *draft) put(key, val string) {
	if d.e == api.OK {
		d.e = d.tree.Put(key, val)
	}
}

// drop drops one.
func (d *draft) drop(key string) {
	if d.e == api.OK {
		d.e = d.tree.Drop(key)
	}
}

// note puts what is known of a number.
func (d *draft) note(x Info) { d.put(number(x.Ino), record(x)) }

// release takes one of its names from something: the last one with all that is kept of it. (A directory is empty then.)
func (d *draft) release(x Info) {
	if x.Links > 1 {
		x.Links--
		d.note(x)
		return
	}
	l, e := content(d.tree, x.Ino)
	if d.e == api.OK {
		d.e = e
	}
	for _, p := range l {
		d.drop(number(x.Ino) + p.Key)
	}
	d.drop(number(x.Ino))
}

// Make: a file or a directory.
func (w *World) Make(path string, kind int) (int, api.Errno) {
	if w.none() || kind != file && kind != directory {
		return 0, api.ErrArg
	}
	p, e := w.free(path)
	if e != api.OK {
		return 0, e
	}
	ino, e := w.numbered(number(0))
	if e != api.OK {
		return 0, e
	}
	if ino == math.MaxInt {
		// No number is left, as none comes back: so many calls there never are.
		return 0, api.ErrBig
	}
	ino++
	e = w.change(func(d *draft) {
		d.put(number(0), number(ino))
		d.note(Info{Ino: ino, Kind: kind, Links: 1})
		d.put(p.key(), number(ino))
	})
	if e != api.OK {
		return 0, e
	}
	return ino, api.OK
}

// Link: another name of a file.
func (w *World) Link(path, to string) api.Errno {
	x, e := w.Look(path)
	if e != api.OK {
		return e
	}
	if x.Kind == directory {
		return api.ErrDir
	}
	p, e := w.free(to)
	if e != api.OK {
		return e
	}
	if x.Links == api.MaxLinks {
		return api.ErrBig
	}
	x.Links++
	return w.change(func(d *draft) {
		d.note(x)
		d.put(p.key(), number(x.Ino))
	})
}

// Unlink: a file's name is there no longer.
func (w *World) Unlink(path string) api.Errno {
	if w.none() {
		return api.ErrArg
	}
	if path == "/" {
		return api.ErrDir
	}
	p, e := w.there(path)
	if e != api.OK {
		return e
	}
	if p.is.Kind == directory {
		return api.ErrDir
	}
	return w.remove(p)
}

// Rmdir: an empty directory is there no longer.
func (w *World) Rmdir(path string) api.Errno {
	if w.none() {
		return api.ErrArg
	}
	p, e := w.there(path)
	if e != api.OK {
		return e
	}
	if p.is.Kind == file {
		return api.ErrFile
	}
	if e := w.empty(p.is.Ino); e != api.OK {
		return e
	}
	return w.remove(p)
}

// remove takes the name from what is in a place.
func (w *World) remove(p place) api.Errno {
	return w.change(func(d *draft) {
		d.drop(p.key())
		d.release(p.is)
	})
}

// empty: ErrFull of a directory that has names in it.
func (w *World) empty(ino int) api.Errno {
	l, e := content(w.tree, ino)
	if e == api.OK && len(l) > 0 {
		return api.ErrFull
	}
	return e
}
