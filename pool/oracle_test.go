package pool_test

import (
	"math"
	"slices"
	"strings"
	"testing"

	"hoard/api"
	"hoard/array"
	"hoard/dataset"
	"hoard/pack"
	"hoard/rack"
	"hoard/sha"
	"hoard/step"
	"hoard/store"
	"hoard/tree"
	"hoard/world"
)

// side is a dataset or a snapshot of an oracle: its files, in memory.
type side struct {
	x      *tree.Tree
	w      *world.World
	m      *step.Machine
	origin string
}

// oracle tells what a pool must answer: datasets that are in memory alone, on drives that never fail.
type oracle struct {
	s    *store.Store
	sets map[string]*side
}

// newOracle is one with the dataset main.
func newOracle(t *testing.T) *oracle {
	t.Helper()
	r, e := rack.New(16, 2000)
	want(t, "rack.New", e, api.OK)
	a, e := array.New(r, 0)
	want(t, "array.New", e, api.OK)
	s, e := store.New(a, nil, 1)
	want(t, "store.New", e, api.OK)
	o := &oracle{s, map[string]*side{}}
	x, e := tree.Open(s, api.Ptr{})
	want(t, "tree.Open", e, api.OK)
	o.add(t, "main", x, "")
	return o
}

// add is a dataset or a snapshot more, with the pairs of a tree.
func (o *oracle) add(t *testing.T, name string, x *tree.Tree, origin string) {
	t.Helper()
	x = x.Copy()
	w, e := world.New(x)
	want(t, "world.New", e, api.OK)
	m, e := step.New(w)
	want(t, "step.New", e, api.OK)
	o.sets[name] = &side{x, w, m, origin}
}

// copy is an oracle with the same datasets, none of whose descriptors is open.
func (o *oracle) copy(t *testing.T) *oracle {
	t.Helper()
	c := &oracle{o.s, map[string]*side{}}
	for name, x := range o.sets {
		c.add(t, name, x.x, x.origin)
	}
	return c
}

// names are those of all datasets and snapshots.
func (o *oracle) names() []string {
	var l []string
	for name := range o.sets {
		l = append(l, name)
	}
	slices.Sort(l)
	return l
}

// view is what is seen of all of them.
func (o *oracle) view(t *testing.T) string {
	t.Helper()
	s := ""
	for _, name := range o.names() {
		s += name + "\n" + o.sets[name].looks(t)
	}
	return s
}

// looks is what is seen of one.
func (x *side) looks(t *testing.T) string {
	t.Helper()
	return look(
		func(path string) world.Info {
			i, e := x.w.Look(path)
			want(t, "Look", e, api.OK)
			return i
		},
		func(path string) []string {
			l, e := x.w.List(path)
			want(t, "List", e, api.OK)
			return l
		},
		func(_ string, i world.Info) string {
			s, e := x.w.Read(i.Ino, 0, 5000)
			want(t, "Read", e, api.OK)
			return s
		},
	)
}

// call is Call.
func (o *oracle) call(set string, c step.Call) step.Result {
	isSet, isSnap := dataset.Name(set)
	switch x := o.sets[set]; {
	case !isSet && !isSnap:
		return step.Result{Err: api.ErrName}
	case x == nil:
		return step.Result{Err: api.ErrMiss}
	case isSnap && changes(c.Kind):
		return step.Result{Err: api.ErrBusy}
	default:
		return x.m.Do(c)
	}
}

// machine is that of a dataset, on which clients have calls.
func (o *oracle) machine(set string) (*step.Machine, api.Errno) {
	if isSet, _ := dataset.Name(set); !isSet {
		return nil, api.ErrName
	}
	if o.sets[set] == nil {
		return nil, api.ErrMiss
	}
	return o.sets[set].m, api.OK
}

// refuses is why a new dataset or snapshot can't have a name that is one, or OK.
func (o *oracle) refuses(name string) api.Errno {
	if o.sets[name] != nil {
		return api.ErrThere
	}
	if len(o.sets) >= 12 {
		return api.ErrBig
	}
	return api.OK
}

// snapshot is Snapshot.
func (o *oracle) snapshot(t *testing.T, name string) api.Errno {
	t.Helper()
	if _, isSnap := dataset.Name(name); !isSnap {
		return api.ErrName
	}
	of, _, _ := strings.Cut(name, "@")
	switch x := o.sets[of]; {
	case x == nil:
		return api.ErrMiss
	case !x.m.Idle():
		return api.ErrBusy
	}
	e := o.refuses(name)
	if e == api.OK {
		o.add(t, name, o.sets[of].x, "")
	}
	return e
}

// clone is Clone.
func (o *oracle) clone(t *testing.T, snap, name string) api.Errno {
	t.Helper()
	if e := o.mayClone(snap, name); e != api.OK {
		return e
	}
	o.add(t, name, o.sets[snap].x, snap)
	return api.OK
}

// mayClone is what Clone refuses, or OK.
func (o *oracle) mayClone(snap, name string) api.Errno {
	_, isSnap := dataset.Name(snap)
	isSet, _ := dataset.Name(name)
	switch {
	case !isSnap || !isSet:
		return api.ErrName
	case o.sets[snap] == nil:
		return api.ErrMiss
	}
	return o.refuses(name)
}

// destroy is Destroy.
func (o *oracle) destroy(name string) api.Errno {
	isSet, isSnap := dataset.Name(name)
	switch {
	case !isSet && !isSnap:
		return api.ErrName
	case o.sets[name] == nil:
		return api.ErrMiss
	case name == "main" || !o.sets[name].m.Idle():
		return api.ErrBusy
	}
	for other, x := range o.sets {
		if strings.HasPrefix(other, name+"@") || x.origin == name {
			return api.ErrBusy
		}
	}
	delete(o.sets, name)
	return api.OK
}

// pairs are those of a dataset or a snapshot; of the empty name none.
func (o *oracle) pairs(t *testing.T, name string) []api.Pair {
	t.Helper()
	if name == "" {
		return nil
	}
	l, e := o.sets[name].x.Range("", "", math.MaxInt)
	want(t, "Range", e, api.OK)
	return l
}

// send is Send, as its chapter tells a stream's bytes.
func (o *oracle) send(t *testing.T, from, to string) ([]byte, api.Errno) {
	t.Helper()
	_, toSnap := dataset.Name(to)
	_, fromSnap := dataset.Name(from)
	switch {
	case !toSnap || from != "" && !fromSnap:
		return nil, api.ErrName
	case from != "" && o.sets[from] == nil || o.sets[to] == nil:
		return nil, api.ErrMiss
	}
	old, now := o.pairs(t, from), o.pairs(t, to)
	items := []api.Item{{Kind: 1, N: 88}, text(digest(old)), text(digest(now))}
	for len(old)+len(now) > 0 {
		switch {
		case len(now) == 0 || len(old) > 0 && old[0].Key < now[0].Key:
			items = append(items, text(old[0].Key), api.Item{Kind: 1})
			old = old[1:]
		case len(old) == 0 || now[0].Key < old[0].Key:
			items = append(items, text(now[0].Key), api.Item{Kind: 1, N: 1}, text(now[0].Val))
			now = now[1:]
		default:
			if old[0] != now[0] {
				items = append(items, text(now[0].Key), api.Item{Kind: 1, N: 1}, text(now[0].Val))
			}
			old, now = old[1:], now[1:]
		}
	}
	b, e := pack.Encode(items)
	if e != api.OK {
		return nil, e
	}
	if b = sha.Seal(b); len(b) > api.MaxStream {
		return nil, api.ErrBig
	}
	return b, api.OK
}

// text is an item.
func text(s string) api.Item { return api.Item{Kind: 2, S: s} }

// digest is a stream's digest of pairs.
func digest(l []api.Pair) string {
	s := ""
	for _, p := range l {
		s += sha.Sum([]byte(p.Key)) + sha.Sum([]byte(p.Val))
	}
	return sha.Sum([]byte(s))
}

// receive is Receive of a stream that was sent from a snapshot (or the empty name) to another one.
func (o *oracle) receive(t *testing.T, base, name, from, to string) api.Errno {
	t.Helper()
	isSet, _ := dataset.Name(name)
	e := api.ErrName
	switch {
	case base != "":
		e = o.mayClone(base, name)
	case isSet:
		e = o.refuses(name)
	}
	if e != api.OK {
		return e
	}
	if !slices.Equal(o.pairs(t, base), o.pairs(t, from)) {
		return api.ErrBusy
	}
	o.add(t, name, o.sets[to].x, base)
	return api.OK
}
