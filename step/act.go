package step

import (
	"slices"

	"hoard/api"
)

// The kinds of what is in a world.
const (
	file      = 1
	directory = 2
)

// act does a call in the world, or among the descriptors; ino: the number of the file that it wrote or truncated.
func (m *Machine) act(c Call) (r Result, ino int) {
	w := m.world
	switch c.Kind {
	case Create:
		r.N, r.Err = w.Make(c.Path, file)
	case Mkdir:
		r.N, r.Err = w.Make(c.Path, directory)
	case Open:
		r.N, r.Err = m.open(c.Path)
	case Close:
		r.Err = m.close(c.D)
	case Read:
		r.Data, r.Err = m.read(c)
	case Write, Truncate:
		ino, r.Err = m.write(c)
	case Rename:
		r.Err = w.Rename(c.Path, c.To)
	case Unlink:
		r.Err = w.Unlink(c.Path)
	case Rmdir:
		r.Err = w.Rmdir(c.Path)
	case Link:
		r.Err = w.Link(c.Path, c.To)
	case List:
		r.Names, r.Err = w.List(c.Path)
	case Stat:
		r.Info, r.Err = w.Look(c.Path)
	default:
		r.Err = api.ErrArg
	}
	return r, ino
}

// open has the least descriptor that isn't open stand for a file.
func (m *Machine) open(path string) (int, api.Errno) {
	x, e := m.world.Look(path)
	if e != api.OK {
		return 0, e
	}
	if x.Kind == directory {
		return 0, api.ErrDir
	}
	i := slices.Index(m.files[:], 0)
	if i < 0 {
		return 0, api.ErrBig
	}
	m.files[i] = x.Ino
	return i + 1, api.OK
}

// close ends a descriptor, whether its file is there still or not.
func (m *Machine) close(d int) api.Errno {
	if !m.opened(d) {
		return api.ErrStale
	}
	m.files[d-1] = 0
	return api.OK
}

// opened: is a descriptor open?
func (m *Machine) opened(d int) bool {
	return d >= 1 && d <= len(m.files) && m.files[d-1] != 0
}

// read is what a call reads of a descriptor's file.
func (m *Machine) read(c Call) (string, api.Errno) {
	ino, e := m.number(c.D)
	if e != api.OK {
		return "", e
	}
	return m.world.Read(ino, c.Off, c.N)
}

// write writes or truncates a descriptor's file, and tells its number.
func (m *Machine) write(c Call) (int, api.Errno) {
	ino, e := m.number(c.D)
	if e != api.OK {
		return 0, e
	}
	if c.Kind == Truncate {
		return ino, m.world.Truncate(ino, c.N)
	}
	return ino, m.world.Write(ino, c.Off, c.Data)
}

// number is that of a descriptor's file, which is looked for ahead of all else that a call may be refused for. (No number is ever given again, so that what is found is the file that was opened.)
func (m *Machine) number(d int) (int, api.Errno) {
	if !m.opened(d) {
		return 0, api.ErrStale
	}
	ino := m.files[d-1]
	_, e := m.world.Info(ino)
	if e == api.ErrMiss {
		return 0, api.ErrStale
	}
	return ino, e
}
