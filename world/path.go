package world

import (
	"strings"

	"hoard/api"
)

// Names: the names of a path.
func Names(path string) ([]string, api.Errno) {
	rest, ok := strings.CutPrefix(path, "/")
	if !ok {
		return nil, api.ErrName
	}
	if rest == "" {
		return nil, api.OK
	}
	l := strings.SplitN(rest, "/", api.MaxDepth+1)
	if len(l) > api.MaxDepth {
		return nil, api.ErrName
	}
	for i, name := range l {
		if !isName(name) {
			return nil, api.ErrName
		}
		l[i] = strings.Clone(name)
	}
	return l, api.OK
}

// isName: may a file or a directory have this name?
func isName(s string) bool {
	for i := range len(s) {
		if c := s[i]; c < 0x21 || c > 0x7e || c == '/' {
			return false
		}
	}
	return len(s) >= 1 && len(s) <= api.MaxName && s != "." && s != ".."
}

// place is where a name is, or may be.
type place struct {
	dir   int
	name  string
	depth int  // of the path: so many names
	is    Info // what has the name; Info{}: nothing
}

// taken: does something have the name?
func (p place) taken() bool { return p.is != Info{} }

// key is that of the name.
func (p place) key() string { return nameKey(p.dir, p.name) }

// follow is what names lead to from the root directory.
func (w *World) follow(names []string) (Info, api.Errno) {
	x, e := w.known(top)
	for _, name := range names {
		if e != api.OK {
			break
		}
		x, e = w.enter(x, name)
	}
	if e != api.OK {
		return Info{}, e
	}
	return x, api.OK
}

// enter is what a name leads to from a directory. ErrFile: from a file.
func (w *World) enter(x Info, name string) (Info, api.Errno) {
	if x.Kind == file {
		return Info{}, api.ErrFile
	}
	ino, e := w.numbered(nameKey(x.Ino, name))
	if e != api.OK {
		return Info{}, e
	}
	return w.known(ino)
}

// place looks a place up, whether something is there or not.
func (w *World) place(path string) (place, api.Errno) {
	names, e := Names(path)
	if e != api.OK || len(names) == 0 {
		return place{}, api.ErrName
	}
	last := len(names) - 1
	dir, e := w.follow(names[:last])
	if e != api.OK {
		return place{}, e
	}
	x, e := w.enter(dir, names[last])
	if e != api.OK && e != api.ErrMiss {
		return place{}, e
	}
	return place{dir: dir.Ino, name: names[last], depth: len(names), is: x}, api.OK
}

// there looks a path's place up; ErrMiss: nothing is there.
func (w *World) there(path string) (place, api.Errno) {
	p, e := w.place(path)
	if e == api.OK && !p.taken() {
		return place{}, api.ErrMiss
	}
	return p, e
}

// free looks a path's place up; ErrThere: something is there.
func (w *World) free(path string) (place, api.Errno) {
	p, e := w.place(path)
	if e == api.OK && p.taken() {
		return place{}, api.ErrThere
	}
	return p, e
}
