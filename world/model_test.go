package world_test

import (
	"fmt"
	"maps"
	"math"
	"math/rand"
	"slices"
	"strings"
	"testing"

	"hoard/api"
	"hoard/world"
)

// thing is a file or a directory in memory.
type thing struct {
	ino, kind, links int
	bytes            []byte
	names            map[string]*thing
}

// model is a world in memory, as plainly as the chapter tells it.
type model struct {
	root *thing
	last int
}

func newModel() *model {
	return &model{&thing{ino: 1, kind: 2, links: 1, names: map[string]*thing{}}, 1}
}

// copied is a model with things of its own.
func (m *model) copied() *model {
	done := map[*thing]*thing{}
	var deep func(x *thing) *thing
	deep = func(x *thing) *thing {
		if done[x] == nil {
			y := *x
			done[x] = &y
			y.bytes = slices.Clone(x.bytes)
			y.names = map[string]*thing{}
			for s, z := range x.names {
				y.names[s] = deep(z)
			}
		}
		return done[x]
	}
	return &model{deep(m.root), m.last}
}

// things are all that there are, by number.
func (m *model) things() map[int]*thing {
	all := map[int]*thing{}
	var walk func(x *thing)
	walk = func(x *thing) {
		all[x.ino] = x
		for _, y := range x.names {
			walk(y)
		}
	}
	walk(m.root)
	return all
}

// tall is how many names the longest path below a thing has.
func (x *thing) tall() int {
	n := 0
	for _, y := range x.names {
		n = max(n, 1+y.tall())
	}
	return n
}

// info is what is to be told of a thing.
func (x *thing) info() world.Info {
	return world.Info{Ino: x.ino, Kind: x.kind, Size: len(x.bytes), Links: x.links}
}

// look looks names up.
func (m *model) look(names []string) (*thing, api.Errno) {
	x := m.root
	for _, s := range names {
		if x.kind == 1 {
			return nil, api.ErrFile
		}
		if x = x.names[s]; x == nil {
			return nil, api.ErrMiss
		}
	}
	return x, api.OK
}

// lookPath looks a path up.
func (m *model) lookPath(path string) (*thing, api.Errno) {
	names, e := world.Names(path)
	if e != api.OK {
		return nil, e
	}
	return m.look(names)
}

// place is a path's directory, and the name in it.
func (m *model) place(path string) (*thing, string, api.Errno) {
	names, e := world.Names(path)
	if e != api.OK || path == "/" {
		return nil, "", api.ErrName
	}
	last := len(names) - 1
	x, e := m.look(names[:last])
	switch {
	case e != api.OK:
		return nil, "", e
	case x.kind == 1:
		return nil, "", api.ErrFile
	}
	return x, names[last], api.OK
}

func (m *model) make(path string, kind int) (int, api.Errno) {
	if kind != 1 && kind != 2 {
		return 0, api.ErrArg
	}
	dir, name, e := m.place(path)
	switch {
	case e != api.OK:
		return 0, e
	case dir.names[name] != nil:
		return 0, api.ErrThere
	}
	m.last++
	dir.names[name] = &thing{ino: m.last, kind: kind, links: 1, names: map[string]*thing{}}
	return m.last, api.OK
}

func (m *model) link(path, to string) api.Errno {
	x, e := m.lookPath(path)
	if e != api.OK {
		return e
	}
	if x.kind == 2 {
		return api.ErrDir
	}
	dir, name, e := m.place(to)
	switch {
	case e != api.OK:
		return e
	case dir.names[name] != nil:
		return api.ErrThere
	case x.links == 8:
		return api.ErrBig
	}
	dir.names[name] = x
	x.links++
	return api.OK
}

func (m *model) unlink(path string) api.Errno {
	x, e := m.lookPath(path)
	if e != api.OK {
		return e
	}
	if x.kind == 2 {
		return api.ErrDir
	}
	dir, name, _ := m.place(path)
	delete(dir.names, name)
	x.links--
	return api.OK
}

func (m *model) rmdir(path string) api.Errno {
	if path == "/" {
		return api.ErrName
	}
	x, e := m.lookPath(path)
	switch {
	case e != api.OK:
		return e
	case x.kind == 1:
		return api.ErrFile
	case len(x.names) > 0:
		return api.ErrFull
	}
	dir, name, _ := m.place(path)
	delete(dir.names, name)
	return api.OK
}

func (m *model) rename(from, to string) api.Errno {
	for _, path := range []string{from, to} {
		if _, e := world.Names(path); e != api.OK || path == "/" {
			return api.ErrName
		}
	}
	x, e := m.lookPath(from)
	if e != api.OK {
		return e
	}
	if x.kind == 2 && strings.HasPrefix(to, from+"/") {
		return api.ErrLoop
	}
	dir, name, e := m.place(to)
	if e != api.OK {
		return e
	}
	switch y := dir.names[name]; {
	case y == x:
		return api.OK
	case y == nil:
	case x.kind == 1 && y.kind == 2:
		return api.ErrDir
	case x.kind == 2 && y.kind == 1:
		return api.ErrFile
	case len(y.names) > 0:
		return api.ErrFull
	}
	if x.kind == 2 && strings.Count(to, "/")+x.tall() > 8 {
		return api.ErrBig
	}
	if y := dir.names[name]; y != nil {
		y.links--
	}
	old, was, _ := m.place(from)
	delete(old.names, was)
	dir.names[name] = x
	return api.OK
}

// file is that of a number.
func (m *model) file(ino int) (*thing, api.Errno) {
	x := m.things()[ino]
	switch {
	case x == nil:
		return nil, api.ErrMiss
	case x.kind == 2:
		return nil, api.ErrDir
	}
	return x, api.OK
}

func (m *model) write(ino, off int, s string) api.Errno {
	switch {
	case off < 0:
		return api.ErrArg
	case off+len(s) > 4096:
		return api.ErrBig
	}
	x, e := m.file(ino)
	if e == api.OK && s != "" {
		x.bytes = append(x.bytes, make([]byte, max(0, off+len(s)-len(x.bytes)))...)
		copy(x.bytes[off:], s)
	}
	return e
}

func (m *model) truncate(ino, size int) api.Errno {
	switch {
	case size < 0:
		return api.ErrArg
	case size > 4096:
		return api.ErrBig
	}
	x, e := m.file(ino)
	if e == api.OK {
		x.bytes = append(slices.Clone(x.bytes), make([]byte, 4096)...)[:size]
	}
	return e
}

// play is a world with its model.
type play struct {
	bed
	m    *model
	rnd  *rand.Rand
	deep bool // are its paths long?
}

// path is a path of few names, one that is there or one that isn't.
func (p *play) path() string {
	if p.rnd.Intn(40) == 0 {
		return anyOf(p.rnd, []string{"", "/", "a", "//", "/a/", "/..", deep("a", 9), deep("b", 8)})
	}
	s, x := "", p.m.root
	for {
		names := slices.Sorted(maps.Keys(x.names))
		if len(names) == 0 || p.rnd.Intn(8) == 0 {
			break
		}
		name := anyOf(p.rnd, names)
		s, x = s+"/"+name, x.names[name]
	}
	most := 3
	if p.deep {
		most = 9
	}
	for range p.rnd.Intn(3) {
		if strings.Count(s, "/") < most {
			s += "/" + anyOf(p.rnd, []string{"a", "b", "c", name16})
		}
	}
	if s == "" {
		s = "/" + anyOf(p.rnd, []string{"a", "b", "c"})
	}
	return s
}

// deed does one call to both; what is refused has changed no pair.
func (p *play) deed(t *testing.T) {
	t.Helper()
	path, to := p.path(), p.path()
	ino := p.rnd.Intn(p.m.last + 2)
	off, s := p.rnd.Intn(4200)-2, long(p.rnd.Intn(anyOf(p.rnd, []int{1, 10, 600, 4100})))
	was, dirty := p.pairs(t), p.x.Dirty()
	var what string
	var got, must api.Errno
	switch p.rnd.Intn(12) {
	case 0, 1, 2:
		kind := 1 + p.rnd.Intn(9)/4
		n, e := p.Make(path, kind)
		m, f := p.m.make(path, kind)
		if n != m {
			t.Fatalf("Make %q: %d, not %d", path, n, m)
		}
		what, got, must = "Make "+path, e, f
	case 3:
		what, got, must = "Link "+path+" "+to, p.Link(path, to), p.m.link(path, to)
	case 4:
		what, got, must = "Unlink "+path, p.Unlink(path), p.m.unlink(path)
	case 5:
		what, got, must = "Rmdir "+path, p.Rmdir(path), p.m.rmdir(path)
	case 6, 7, 8:
		what, got, must = "Rename "+path+" "+to, p.Rename(path, to), p.m.rename(path, to)
	case 9, 10:
		what, got, must = fmt.Sprintf("Write %d %d %d", ino, off, len(s)), p.Write(ino, off, s), p.m.write(ino, off, s)
	default:
		what, got, must = fmt.Sprintf("Truncate %d %d", ino, off), p.Truncate(ino, off), p.m.truncate(ino, off)
	}
	want(t, what, got, must)
	if got != api.OK && (!slices.Equal(p.pairs(t), was) || p.x.Dirty() != dirty) {
		t.Fatalf("%s: %d, and something was changed", what, got)
	}
}

// holds holds a world to a model, wholly.
func (b bed) holds(t *testing.T, m *model) {
	t.Helper()
	all := m.things()
	for ino := -1; ino <= m.last+1; ino++ {
		x, e := b.Info(ino)
		if y := all[ino]; y == nil && e != api.ErrMiss || y != nil && (e != api.OK || x != y.info()) {
			t.Fatalf("Info(%d): %v, %d", ino, x, e)
		}
	}
	var walk func(path string, x *thing)
	walk = func(path string, x *thing) {
		at := path
		if path == "" {
			at = "/"
		}
		b.looks(t, at, x.info())
		if x.kind == 1 {
			b.reads(t, x.ino, string(x.bytes))
			b.noList(t, at, api.ErrFile)
			return
		}
		b.noRead(t, x.ino, 0, math.MaxInt, api.ErrDir)
		b.lists(t, at, slices.Sorted(maps.Keys(x.names))...)
		for s, y := range x.names {
			walk(path+"/"+s, y)
		}
	}
	walk("", m.root)
}

// asks holds some calls that change nothing to the model.
func (p *play) asks(t *testing.T) {
	t.Helper()
	path := p.path()
	x, e := p.m.lookPath(path)
	if e != api.OK {
		p.lacks(t, path, e)
		p.noList(t, path, e)
	} else {
		p.looks(t, path, x.info())
	}
}

// P14.1, P14.2, P14.3: whatever is done, in whichever tree it is opened again: a world is as that in memory.
func TestModel(t *testing.T) {
	for seed := range 40 {
		rnd := rand.New(rand.NewSource(int64(seed)))
		p := &play{lay(t), newModel(), rnd, seed%2 == 1}
		for i := range 250 {
			p.deed(t)
			p.asks(t)
			if rnd.Intn(12) == 0 {
				p.reopen(t)
			}
			if i%25 == 0 {
				p.holds(t, p.m)
			}
		}
		p.holds(t, p.m)
	}
}

// reopen goes on with a world that is opened anew.
func (p *play) reopen(t *testing.T) {
	t.Helper()
	switch p.rnd.Intn(4) {
	case 0:
		p.bed = p.on(t, p.x)
	case 1:
		p.bed = p.on(t, p.x.Copy())
	case 2:
		p.syncs(t)
	default:
		p.bed = p.open(t, p.syncs(t))
	}
}

// P14.3: a root that was synced tells the world as it was, and a copy goes its own way.
func TestPast(t *testing.T) {
	type past struct {
		root api.Ptr
		m    *model
	}
	for seed := range 8 {
		rnd := rand.New(rand.NewSource(int64(seed)))
		p := &play{layOn(t, 8, 2000), newModel(), rnd, false}
		var old []past
		for range 8 {
			for range 15 {
				p.deed(t)
			}
			old = append(old, past{p.syncs(t), p.m.copied()})
			q := &play{p.on(t, p.x.Copy()), p.m.copied(), rnd, true}
			for range 15 {
				q.deed(t)
			}
			q.holds(t, q.m)
			p.holds(t, p.m)
		}
		for _, x := range old {
			p.open(t, x.root).holds(t, x.m)
		}
	}
}
