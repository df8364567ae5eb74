package shell_test

import (
	"encoding/hex"
	"fmt"
	"maps"
	"slices"
	"strings"

	"hoard/api"
	"hoard/step"
)

// node is a file or a directory in memory.
type node struct {
	ino, kind, links int
	data             []byte
	names            map[string]*node
}

// side is a dataset or a snapshot in memory.
type side struct {
	root   *node
	last   int // the greatest number that was ever given
	open   [9]*node
	origin string // the snapshot that it began as
}

// memory is all datasets and snapshots, as files in memory, that answer lines as plainly as the document tells them.
type memory struct {
	sets map[string]*side
}

// newMemory is that of a new pool.
func newMemory() *memory {
	return &memory{map[string]*side{"main": {root: &node{ino: 1, kind: 2, links: 1, names: map[string]*node{}}, last: 1}}}
}

// copy is a side of its own, none of whose descriptors is open.
func (s *side) copy(origin string) *side {
	made := map[*node]*node{}
	var deep func(x *node) *node
	deep = func(x *node) *node {
		if made[x] == nil {
			y := *x
			made[x] = &y
			y.data, y.names = slices.Clone(x.data), map[string]*node{}
			for name, z := range x.names {
				y.names[name] = deep(z)
			}
		}
		return made[x]
	}
	return &side{root: deep(s.root), last: s.last, origin: origin}
}

// copy is what a memory is now, as it lasts: without descriptors.
func (m *memory) copy() *memory {
	c := &memory{map[string]*side{}}
	for name, s := range m.sets {
		c.sets[name] = s.copy(s.origin)
	}
	return c
}

// view is all that can be seen of it, and what the next files' numbers are.
func (m *memory) view() string {
	var b strings.Builder
	var walk func(path string, x *node)
	walk = func(path string, x *node) {
		fmt.Fprintf(&b, "%s %d %d %d %q\n", path, x.ino, x.kind, x.links, x.data)
		for _, name := range slices.Sorted(maps.Keys(x.names)) {
			walk(path+"/"+name, x.names[name])
		}
	}
	for _, name := range slices.Sorted(maps.Keys(m.sets)) {
		fmt.Fprintln(&b, name, m.sets[name].last, m.sets[name].origin)
		walk("", m.sets[name].root)
	}
	return b.String()
}

// parts are a path's names.
func parts(path string) []string {
	if path == "/" {
		return nil
	}
	return strings.Split(path[1:], "/")
}

// look looks names up.
func (s *side) look(l []string) (*node, api.Errno) {
	x := s.root
	for _, name := range l {
		if x.kind == 1 {
			return nil, api.ErrFile
		}
		if x = x.names[name]; x == nil {
			return nil, api.ErrMiss
		}
	}
	return x, api.OK
}

// place is a path's directory, and the name in it.
func (s *side) place(path string) (*node, string, api.Errno) {
	l := parts(path)
	if len(l) == 0 {
		return nil, "", api.ErrName
	}
	dir, e := s.look(l[:len(l)-1])
	if e == api.OK && dir.kind == 1 {
		e = api.ErrFile
	}
	if e != api.OK {
		return nil, "", e
	}
	return dir, l[len(l)-1], api.OK
}

// make is a new file or directory.
func (s *side) make(path string, kind int) (int, api.Errno) {
	dir, name, e := s.place(path)
	if e == api.OK && dir.names[name] != nil {
		e = api.ErrThere
	}
	if e != api.OK {
		return 0, e
	}
	s.last++
	dir.names[name] = &node{ino: s.last, kind: kind, links: 1, names: map[string]*node{}}
	return s.last, api.OK
}

// link is a name more of a file.
func (s *side) link(path, to string) api.Errno {
	x, e := s.look(parts(path))
	if e == api.OK && x.kind == 2 {
		e = api.ErrDir
	}
	if e != api.OK {
		return e
	}
	dir, name, e := s.place(to)
	switch {
	case e != api.OK:
		return e
	case dir.names[name] != nil:
		return api.ErrThere
	case x.links == 8:
		return api.ErrBig
	}
	dir.names[name] = x
	x.links++
	return api.OK
}

// remove takes a name away: of a file, or of a directory.
func (s *side) remove(path string, kind int) api.Errno {
	if kind == 2 && path == "/" {
		return api.ErrName
	}
	x, e := s.look(parts(path))
	switch {
	case e != api.OK:
		return e
	case x.kind == 2 && kind == 1:
		return api.ErrDir
	case x.kind == 1 && kind == 2:
		return api.ErrFile
	case len(x.names) > 0:
		return api.ErrFull
	}
	dir, name, _ := s.place(path)
	delete(dir.names, name)
	x.links--
	return api.OK
}

// tall is how many names the longest path below a node has.
func (x *node) tall() int {
	n := 0
	for _, y := range x.names {
		n = max(n, 1+y.tall())
	}
	return n
}

// rename has a file or a directory have another name.
func (s *side) rename(from, to string) api.Errno {
	if from == "/" || to == "/" {
		return api.ErrName
	}
	x, e := s.look(parts(from))
	if e != api.OK {
		return e
	}
	if x.kind == 2 && strings.HasPrefix(to, from+"/") {
		return api.ErrLoop
	}
	dir, name, e := s.place(to)
	if e != api.OK {
		return e
	}
	y := dir.names[name]
	switch {
	case y == x:
		return api.OK
	case y == nil:
	case x.kind == 1 && y.kind == 2:
		return api.ErrDir
	case x.kind == 2 && y.kind == 1:
		return api.ErrFile
	case len(y.names) > 0:
		return api.ErrFull
	}
	if x.kind == 2 && strings.Count(to, "/")+x.tall() > 8 {
		return api.ErrBig
	}
	if y != nil {
		y.links--
	}
	old, was, _ := s.place(from)
	delete(old.names, was)
	dir.names[name] = x
	return api.OK
}

// opens is a descriptor more.
func (s *side) opens(path string) (int, api.Errno) {
	x, e := s.look(parts(path))
	if e == api.OK && x.kind == 2 {
		e = api.ErrDir
	}
	if e != api.OK {
		return 0, e
	}
	for d := 1; d <= 8; d++ {
		if s.open[d] == nil {
			s.open[d] = x
			return d, api.OK
		}
	}
	return 0, api.ErrBig
}

// file is that of a descriptor.
func (s *side) file(d int) *node {
	if d < 1 || d > 8 || s.open[d] == nil || s.open[d].links == 0 {
		return nil
	}
	return s.open[d]
}

// bytes is a Read, Write or Truncate, on a descriptor's file.
func (s *side) bytes(c step.Call) (string, api.Errno) {
	x, most := s.file(c.D), 4096
	if x == nil {
		return "", api.ErrStale
	}
	if c.Kind != step.Truncate && c.Off < 0 || c.Kind != step.Write && c.N < 0 {
		return "", api.ErrArg
	}
	switch {
	case c.Kind == step.Read:
		from := min(c.Off, len(x.data))
		return string(x.data[from : from+min(c.N, len(x.data)-from)]), api.OK
	case c.Kind == step.Truncate && c.N > most || c.Kind == step.Write && c.Off > most-len(c.Data):
		return "", api.ErrBig
	case c.Kind == step.Truncate:
		x.data = append(x.data, make([]byte, most)...)[:c.N]
	case c.Data != "":
		x.data = append(x.data, make([]byte, max(0, c.Off+len(c.Data)-len(x.data)))...)
		copy(x.data[c.Off:], c.Data)
	}
	return "", api.OK
}

// said is a reply.
func said(e api.Errno, words ...any) string {
	if e != api.OK {
		return fmt.Sprint("error ", int(e))
	}
	return strings.TrimSpace("ok " + strings.TrimSpace(fmt.Sprintln(words...)))
}

// call is the reply to a call.
func (m *memory) call(set string, c step.Call) string {
	s := m.sets[set]
	if s == nil {
		return said(api.ErrMiss)
	}
	if strings.Contains(set, "@") && c.Kind != step.Open && c.Kind != step.Close && c.Kind != step.Read && c.Kind < step.List {
		return said(api.ErrBusy)
	}
	switch c.Kind {
	case step.Create, step.Mkdir:
		n, e := s.make(c.Path, c.Kind)
		return said(e, n)
	case step.Open:
		n, e := s.opens(c.Path)
		return said(e, n)
	case step.Close:
		if c.D < 1 || c.D > 8 || s.open[c.D] == nil {
			return said(api.ErrStale)
		}
		s.open[c.D] = nil
		return "ok"
	case step.Read:
		data, e := s.bytes(c)
		if e == api.OK && data == "" {
			return "ok -"
		}
		return said(e, hex.EncodeToString([]byte(data)))
	case step.Write, step.Truncate:
		_, e := s.bytes(c)
		return said(e)
	case step.Rename:
		return said(s.rename(c.Path, c.To))
	case step.Link:
		return said(s.link(c.Path, c.To))
	case step.Unlink:
		return said(s.remove(c.Path, 1))
	case step.Rmdir:
		return said(s.remove(c.Path, 2))
	case step.List:
		x, e := s.look(parts(c.Path))
		if e == api.OK && x.kind == 1 {
			e = api.ErrFile
		}
		if e != api.OK {
			return said(e)
		}
		return said(e, strings.Join(slices.Sorted(maps.Keys(x.names)), " "))
	}
	x, e := s.look(parts(c.Path))
	if e != api.OK {
		return said(e)
	}
	return said(e, x.kind, len(x.data), x.links)
}

// add is a dataset or a snapshot more, that begins as another one.
func (m *memory) add(from, name, origin string) api.Errno {
	switch {
	case m.sets[name] != nil:
		return api.ErrThere
	case len(m.sets) >= 12:
		return api.ErrBig
	}
	m.sets[name] = m.sets[from].copy(origin)
	return api.OK
}

// destroy is one less.
func (m *memory) destroy(name string) api.Errno {
	if m.sets[name] == nil {
		return api.ErrMiss
	}
	if name == "main" {
		return api.ErrBusy
	}
	for other, s := range m.sets {
		if strings.HasPrefix(other, name+"@") || s.origin == name {
			return api.ErrBusy
		}
	}
	delete(m.sets, name)
	return api.OK
}

// isOf: do words look as the letters say, S: a snapshot's name, A: a dataset's, N: a number?
func isOf(letters string, l []string) bool {
	if len(l) != len(letters) {
		return false
	}
	for i, s := range l {
		switch letters[i] {
		case 'N':
			if !isNumber(s) {
				return false
			}
		default:
			if !names.MatchString(s) || strings.Contains(s, "@") != (letters[i] == 'S') {
				return false
			}
		}
	}
	return true
}

// reply is that to a line, but for those of the rack, crashes and scrubs; lasts: does it make last what was done?
func (m *memory) reply(line string) (told string, lasts bool) {
	if set, c, e := take(line); e == api.OK {
		return m.call(set, c), false
	}
	l := strings.Split(line, " ")
	e := api.ErrForm
	switch word, l := l[0], l[1:]; {
	case word == "names" && len(l) == 0:
		return said(api.OK, strings.Join(slices.Sorted(maps.Keys(m.sets)), " ")), false
	case (word == "fsync" || word == "sync") && len(l) == 0:
		e = api.OK
	case word == "snapshot" && isOf("S", l):
		of, _, _ := strings.Cut(l[0], "@")
		if e = api.ErrMiss; m.sets[of] != nil {
			e = m.add(of, l[0], "")
		}
	case (word == "clone" || word == "copy") && isOf("SA", l):
		origin := l[0]
		if word == "copy" {
			origin = ""
		}
		if e = api.ErrMiss; m.sets[l[0]] != nil {
			e = m.add(l[0], l[1], origin)
		}
	case word == "copy" && isOf("SSA", l):
		if e = api.ErrMiss; m.sets[l[0]] != nil && m.sets[l[1]] != nil {
			e = m.add(l[1], l[2], l[0])
		}
	case word == "destroy" && (isOf("A", l) || isOf("S", l)):
		e = m.destroy(l[0])
	}
	return said(e), e == api.OK
}
