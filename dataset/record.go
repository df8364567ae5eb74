package dataset

import (
	"cmp"
	"maps"
	"math"
	"slices"
	"strconv"
	"strings"

	"hoard/api"
	"hoard/dead"
	"hoard/pack"
)

// record is all that stands of a dataset or a snapshot: a pair of its name with the first three, and pairs with its dead blocks, some in each.
type record struct {
	name   string
	root   api.Ptr
	txg    int    // a snapshot's; of a dataset 0
	origin string // a clone's; else empty
	dead   []api.Ptr
}

// The kinds of pack's items.
const (
	number = 1
	text   = 2
)

const (
	blank = " "    // less than all bytes of names: what belongs to a name stands right behind it
	most  = 12     // so many dead blocks have room in a pair, whatever their numbers are
	first = 100000 // parts have five digits, so that their keys rise: one more than these
)

// partKey is the key of a pair with dead blocks.
func partKey(name string, part int) string {
	return name + blank + strconv.Itoa(first + part)[1:]
}

// byKey is the order of pairs.
func byKey(p, q api.Pair) int { return cmp.Compare(p.Key, q.Key) }

// records are those of datasets, in the order of the datasets' names.
func records(sets map[string]*set) []record {
	var l []record
	for _, name := range slices.Sorted(maps.Keys(sets)) {
		x := sets[name]
		l = append(l, record{name: name, root: x.root, origin: x.origin, dead: x.line.Dead})
		for i, s := range x.snaps {
			l = append(l, record{name: s.name, root: s.root, txg: x.line.Snaps[i].Txg, dead: x.line.Snaps[i].Dead})
		}
	}
	return l
}

// pairsOf are the pairs of records, in the order of their keys.
func pairsOf(l []record) ([]api.Pair, api.Errno) {
	var pairs []api.Pair
	for _, r := range l {
		val, e := r.spell()
		if e != api.OK {
			return nil, e
		}
		pairs = append(pairs, api.Pair{Key: r.name, Val: val})
		part := 0
		for some := range slices.Chunk(r.dead, most) {
			val, e := spellDead(some)
			if e != api.OK {
				return nil, e
			}
			pairs = append(pairs, api.Pair{Key: partKey(r.name, part), Val: val})
			part++
		}
	}
	slices.SortFunc(pairs, byKey)
	return pairs, api.OK
}

// spell is a record's value, without dead blocks.
func (r record) spell() (string, api.Errno) {
	root := ""
	if r.root != (api.Ptr{}) {
		s, e := pack.Ptr(r.root)
		if e != api.OK {
			return "", e
		}
		root = s
	}
	b, e := pack.Encode([]api.Item{{Kind: text, S: root}, {Kind: number, N: r.txg}, {Kind: text, S: r.origin}})
	return string(b), e
}

// spellDead is a value of dead blocks.
func spellDead(some []api.Ptr) (string, api.Errno) {
	var l []api.Item
	for _, p := range some {
		l = append(l, api.Item{Kind: number, N: p.Addr}, api.Item{Kind: number, N: p.Size}, api.Item{Kind: number, N: p.Birth})
	}
	b, e := pack.Encode(l)
	return string(b), e
}

// recordsOf are the records of which these are the pairs. ErrForm: of none.
func recordsOf(pairs []api.Pair) ([]record, api.Errno) {
	var l []record
	for _, p := range pairs {
		items, e := pack.Decode([]byte(p.Val))
		if e != api.OK {
			return nil, e
		}
		if !strings.Contains(p.Key, blank) {
			r, e := parse(p.Key, items)
			if e != api.OK {
				return nil, e
			}
			l = append(l, r)
			continue
		}
		some, e := parseDead(items)
		if e != api.OK || len(l) == 0 {
			return nil, api.ErrForm
		}
		last := &l[len(l)-1]
		last.dead = append(last.dead, some...)
	}
	// What stands otherwise than it would be written is no record's: kinds, keys, counts.
	must, e := pairsOf(l)
	if e != api.OK || !slices.Equal(must, pairs) {
		return nil, api.ErrForm
	}
	return l, api.OK
}

// parse is the record of a name and a value's items.
func parse(name string, l []api.Item) (record, api.Errno) {
	if len(l) != 3 {
		return record{}, api.ErrForm
	}
	r := record{name: name, txg: l[1].N, origin: l[2].S}
	if l[0].S == "" {
		return r, api.OK
	}
	root, e := pack.Unptr(l[0].S)
	r.root = root
	return r, e
}

// parseDead are the dead blocks of a value's items.
func parseDead(l []api.Item) ([]api.Ptr, api.Errno) {
	if len(l)%3 != 0 {
		return nil, api.ErrForm
	}
	var some []api.Ptr
	for x := range slices.Chunk(l, 3) {
		p := api.Ptr{Addr: x[0].N, Size: x[1].N, Birth: x[2].N}
		if p.Addr < 0 || p.Size < 1 || p.Size > api.MaxBlock || p.Birth < 0 {
			return nil, api.ErrForm
		}
		some = append(some, p)
	}
	return some, api.OK
}

// setsOf are the datasets of records, without their trees. ErrForm: these are no datasets'.
func setsOf(l []record) (map[string]*set, api.Errno) {
	if len(l) > api.MaxSets {
		return nil, api.ErrForm
	}
	// So datasets come first, as their number is 0, and snapshots in the order of their line.
	slices.SortStableFunc(l, func(r, s record) int { return cmp.Compare(r.txg, s.txg) })
	sets := map[string]*set{}
	for _, r := range l {
		isSet, isSnap := Name(r.name)
		x, _ := find(sets, r.name)
		switch {
		case isSet && r.txg == 0:
			sets[r.name] = &set{root: r.root, origin: r.origin, line: dead.Line{Dead: r.dead}}
		case isSnap && x != nil && r.txg > 0 && r.txg < math.MaxInt && r.origin == "":
			x.snaps = append(x.snaps, snap{r.name, r.root})
			x.line.Snaps = append(x.line.Snaps, dead.Snap{Txg: r.txg, Dead: r.dead})
		default:
			return nil, api.ErrForm
		}
	}
	for _, x := range sets {
		if !x.rebase(sets) {
			return nil, api.ErrForm
		}
	}
	return sets, api.OK
}

// rebase sets a line's base. Is it a line in form then, and is the snapshot there that the dataset was cloned from?
func (x *set) rebase(sets map[string]*set) bool {
	if x.origin != "" {
		y, which := find(sets, x.origin)
		if which < 0 {
			return false
		}
		x.line.Base = y.line.Snaps[which].Txg
	}
	return dead.Check(x.line) == api.OK
}
