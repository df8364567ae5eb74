package dataset_test

import (
	"maps"
	"math/rand"
	"slices"
	"strings"
	"testing"

	"hoard/api"
	"hoard/dataset"
	"hoard/space"
	"hoard/tree"
)

// past is a dataset or a snapshot, told plainly.
type past struct {
	m      map[string]string
	origin string
	txg    int
}

// model is what datasets and snapshots there are.
type model map[string]*past

// copied is the model with maps of its own.
func (m model) copied() model {
	c := model{}
	for s, p := range m {
		c[s] = &past{maps.Clone(p.m), p.origin, p.txg}
	}
	return c
}

// add is one more, if there may be.
func (m model) add(name string, p past) api.Errno {
	switch {
	case m[name] != nil:
		return api.ErrThere
	case len(m) >= api.MaxSets:
		return api.ErrBig
	}
	p.m = maps.Clone(p.m)
	m[name] = &p
	return api.OK
}

// create is Create; the others are named likewise.
func (m model) create(name string) api.Errno {
	if set, _ := dataset.Name(name); !set {
		return api.ErrName
	}
	return m.add(name, past{m: map[string]string{}})
}

func (m model) snapshot(name string, txg int) api.Errno {
	if _, snap := dataset.Name(name); !snap {
		return api.ErrName
	}
	of, _, _ := strings.Cut(name, "@")
	if m[of] == nil {
		return api.ErrMiss
	}
	return m.add(name, past{m: m[of].m, txg: txg})
}

func (m model) clone(from, name string) api.Errno {
	_, snap := dataset.Name(from)
	set, _ := dataset.Name(name)
	switch {
	case !set || !snap:
		return api.ErrName
	case m[from] == nil:
		return api.ErrMiss
	}
	return m.add(name, past{m: m[from].m, origin: from})
}

func (m model) destroy(name string) api.Errno {
	set, snap := dataset.Name(name)
	switch {
	case !set && !snap:
		return api.ErrName
	case m[name] == nil:
		return api.ErrMiss
	}
	for s, p := range m {
		if p.origin == name || strings.HasPrefix(s, name+"@") {
			return api.ErrBusy
		}
	}
	delete(m, name)
	return api.OK
}

// play is datasets with the model that they are held to.
type play struct {
	bed
	d    *dataset.Sets
	m    model
	rnd  *rand.Rand
	root api.Ptr
	last model // as it was synced last
}

// deed does one thing to both.
func (p *play) deed(t *testing.T) {
	t.Helper()
	of := anyOf(p.rnd, []string{"a", "b", "c", "d"})
	snap := anyOf(p.rnd, []string{"a", "b", "c", "d"}) + "@" + anyOf(p.rnd, []string{"x", "y", "z"})
	switch p.rnd.Intn(12) {
	case 0:
		want(t, "Create "+of, p.d.Create(of), p.m.create(of))
	case 1, 2:
		txg := p.Txg()
		must := p.m.snapshot(snap, txg)
		want(t, "Snapshot "+snap, p.d.Snapshot(snap), must)
		if must == api.OK {
			txg++
		}
		if p.Txg() != txg {
			t.Fatal(p.Txg(), "isn't", txg)
		}
	case 3:
		want(t, "Clone "+snap+" "+of, p.d.Clone(snap, of), p.m.clone(snap, of))
	case 4, 5:
		name := anyOf(p.rnd, []string{of, snap, snap, "A", ""})
		want(t, "Destroy "+name, p.d.Destroy(name), p.m.destroy(name))
	case 6:
		want(t, "Begin", p.Begin(p.Txg()+p.rnd.Intn(3)), api.OK)
	case 7, 8:
		p.root = syncs(t, p.d)
		p.last = p.m.copied()
		p.justThese(t, p.root)
		p.reopen(t)
	default:
		p.change(t, of)
	}
}

// change changes some pairs of a dataset.
func (p *play) change(t *testing.T, of string) {
	t.Helper()
	if p.m[of] == nil {
		return
	}
	x := treeOf(t, p.d, of)
	for range p.rnd.Intn(20) {
		k := num(p.rnd.Intn(40))
		if p.rnd.Intn(3) > 0 {
			p.m[of].m[k] = long(p.rnd.Intn(120))
			want(t, "Put", x.Put(k, p.m[of].m[k]), api.OK)
		} else if x.Drop(k) == api.OK {
			delete(p.m[of].m, k)
		}
	}
}

// reopen goes on, behind a Sync, with the same, or with what is opened anew in the same store or in another one.
func (p *play) reopen(t *testing.T) {
	t.Helper()
	switch p.rnd.Intn(4) {
	case 0:
		p.Settle()
		p.bed = p.anew(t, p.root, p.Txg()+p.rnd.Intn(2))
		p.d = p.open(t, p.root)
	case 1:
		p.d = p.open(t, p.root)
	case 2:
		p.Settle()
	}
}

// holds holds the datasets to the model.
func (p *play) holds(t *testing.T, d *dataset.Sets, m model) {
	t.Helper()
	lists(t, d, slices.Sorted(maps.Keys(m))...)
	for _, s := range slices.Sorted(maps.Keys(m)) {
		tells(t, d, s, m[s].m)
		if m[s].txg == 0 {
			continue
		}
		root, txg, e := d.Root(s)
		if txg != m[s].txg || e != api.OK {
			t.Fatalf("Root(%s): %d, %d, not %d", s, txg, e, m[s].txg)
		}
		l, e := tree.Blocks(p.Store, root)
		want(t, "Blocks", e, api.OK)
		for _, r := range p.cellsOf(t, l) {
			if !slices.ContainsFunc(p.Used(), func(u space.Range) bool { return u.From <= r.From && u.To >= r.To }) {
				t.Fatalf("%s needs %v, which was given back: %v", s, r, p.Used())
			}
		}
	}
}

// P12.1, P12.2, P12.3, P12.4: whatever is done, the datasets are those of the model, and what is opened from the last root is what was synced.
func TestModel(t *testing.T) {
	for seed := range 60 {
		rnd := rand.New(rand.NewSource(int64(seed)))
		b := lay(t, 5+seed%6, 1000)
		p := &play{bed: b, d: b.open(t, api.Ptr{}), m: model{}, rnd: rnd, last: model{}}
		for range 150 {
			p.deed(t)
			if rnd.Intn(3) == 0 {
				p.holds(t, p.d, p.m)
			}
		}
		p.root = syncs(t, p.d)
		p.justThese(t, p.root)
		p.Settle()
		p.bed = p.anew(t, p.root, p.Txg())
		p.d = p.open(t, p.root)
		p.holds(t, p.d, p.m)
	}
}

// P12.4: behind a Sync what was synced stands there, whatever is done since, as long as nothing is settled.
func TestLastRoot(t *testing.T) {
	for seed := range 20 {
		rnd := rand.New(rand.NewSource(int64(seed)))
		b := lay(t, 5, 1500)
		p := &play{bed: b, d: b.open(t, api.Ptr{}), m: model{}, rnd: rnd, last: model{}}
		for range 40 {
			for range 5 {
				p.deed(t)
			}
			q := &play{bed: p.with(t, nil, p.Txg())}
			q.bed = q.with(t, q.cellsOf(t, q.reach(t, p.root)), p.Txg())
			q.holds(t, q.open(t, p.root), p.last)
		}
	}
}
