package stream_test

import (
	"bytes"
	"maps"
	"math/rand"
	"slices"
	"testing"

	"hoard/api"
	"hoard/store"
	"hoard/stream"
	"hoard/tree"
)

// The chapter's example.
func TestExample(t *testing.T) {
	b := lay(t, 5, 400)
	old, now := pairs{"a": "1"}, pairs{"a": "2", "b": "3"}
	s, e := stream.Send(b.Store, b.root(t, old), b.root(t, now))
	if e != api.OK || !bytes.Equal(s, sealed(t, head(old, now), puts("a", "2"), puts("b", "3"))) {
		t.Fatal(s, e)
	}
	x := b.tree(t, old)
	receives(t, x, s, now)
	refuses(t, "again", x, s, api.ErrBusy)
	refuses(t, "by an empty tree", b.tree(t, pairs{}), s, api.ErrBusy)
	for i := range s {
		s[i]++
		refuses(t, "a byte turned", b.tree(t, old), s, api.ErrForm)
		s[i]--
	}
}

// P16.2: what is sent from any of many trees to another is received by any tree with those pairs: written, or not, or in parts, in this store or another one, whatever its blocks are.
func TestReceive(t *testing.T) {
	for seed := range 6 {
		rnd := rand.New(rand.NewSource(int64(seed)))
		b := lay(t, 16, 2000)
		l := b.pasts(t, rnd, 7, []int{5, 40, 150}[seed%3])
		for _, old := range l {
			for _, now := range l {
				s := b.sends(t, old, now)
				receives(t, b.open(t, old.root), s, now.m)
				receives(t, b.tree(t, old.m), s, now.m)
				other := lay(t, 5, 2000)
				x := other.tree(t, anyOf(rnd, l).m)
				syncs(t, x)
				become(t, x, old.m)
				y := x.Copy()
				receives(t, x, s, now.m)
				tells(t, y, old.m) // goes its own way
				tells(t, other.open(t, syncs(t, x)), now.m)
			}
		}
	}
}

// P16.2: streams one behind the other, a full one first, keep a tree in another store as the first one was.
func TestChain(t *testing.T) {
	b, other := lay(t, 8, 2000), lay(t, 6, 2000)
	rnd := rand.New(rand.NewSource(5))
	x, y := b.open(t, api.Ptr{}), other.open(t, api.Ptr{})
	m, was := pairs{}, past{m: pairs{}}
	for range 30 {
		for range rnd.Intn(60) {
			k := key(rnd.Intn(150))
			if delete(m, k); rnd.Intn(3) > 0 {
				m[k] = bytesOf(rnd, rnd.Intn(90))
			}
		}
		become(t, x, m)
		now := past{syncs(t, x), maps.Clone(m)}
		s := b.sends(t, was, now)
		receives(t, y, s, m)
		if len(itemsOf(was.m, now.m)) > 3 {
			refuses(t, "again", y, s, api.ErrBusy)
		}
		if rnd.Intn(2) == 0 {
			tells(t, other.open(t, syncs(t, y)), m)
		}
		was = now
	}
}

// P16.2: a tree that received a stream is as one to which the changes were put: its Sync tells what it left, and keeps what it has.
func TestSynced(t *testing.T) {
	b := lay(t, 5, 2000)
	old, now := many(80, 60), many(80, 60)
	now[key(40)] = "other"
	p := past{b.root(t, old), old}
	s := b.sends(t, p, past{b.root(t, now), now})
	x, y := b.open(t, p.root), b.open(t, p.root)
	receives(t, x, s, now)
	become(t, y, now)
	if !x.Dirty() {
		t.Error("not dirty")
	}
	root, gone, e := x.Sync()
	want(t, "Sync", e, api.OK)
	left, e := tree.Blocks(b.Store, p.root)
	want(t, "Blocks", e, api.OK)
	is, e := tree.Blocks(b.Store, root)
	want(t, "Blocks", e, api.OK)
	left = slices.DeleteFunc(left, func(p api.Ptr) bool { return slices.Contains(is, p) })
	by := func(p, q api.Ptr) int { return p.Addr - q.Addr }
	slices.SortFunc(left, by)
	slices.SortFunc(gone, by)
	if len(gone) == 0 || !slices.Equal(gone, left) {
		t.Error(len(gone), "blocks are gone, not", len(left))
	}
}

// P16.2: a stream without changes changes nothing, as often as it is received.
func TestNoChanges(t *testing.T) {
	b := lay(t, 5, 400)
	for _, m := range []pairs{{}, many(30, 20)} {
		p := past{b.root(t, m), m}
		s := b.sends(t, p, p)
		x := b.open(t, p.root)
		for range 2 {
			receives(t, x, s, m)
			if x.Dirty() {
				t.Error("dirty")
			}
		}
	}
}

// P16.3: bytes that were turned, cut or added anywhere.
func TestOtherBytes(t *testing.T) {
	b := lay(t, 5, 400)
	old, now := pairs{"a": "1", "b": "2"}, pairs{"a": "", "c": "345"}
	s := sealed(t, itemsOf(old, now))
	x := b.tree(t, old)
	syncs(t, x)
	for i := range s {
		for bit := range 8 {
			s[i] ^= 1 << bit
			refuses(t, "a bit turned", x, s, api.ErrForm)
			s[i] ^= 1 << bit
		}
		refuses(t, "cut behind", x, s[:i], api.ErrForm)
		refuses(t, "cut ahead", x, s[i+1:], api.ErrForm)
		refuses(t, "without a byte", x, slices.Concat(s[:i], s[i+1:]), api.ErrForm)
		refuses(t, "with a byte", x, slices.Concat(s[:i], []byte{s[i]}, s[i:]), api.ErrForm)
		refuses(t, "with a nought", x, slices.Concat(s[:i], []byte{0}, s[i:]), api.ErrForm)
	}
	refuses(t, "a nought behind", x, append(slices.Clone(s), 0), api.ErrForm)
	refuses(t, "twice", x, slices.Concat(s, s), api.ErrForm)
	for _, n := range []int{0, 1, 31, 32, 33, 103, 60000, 60001, 100000} {
		refuses(t, "noughts", x, make([]byte, n), api.ErrForm)
	}
	refuses(t, "nothing", x, nil, api.ErrForm)
	refuses(t, "the sum of nothing", x, []byte(sum("")), api.ErrForm)
	receives(t, x, s, now)
}

// P16.3: items that are sealed, but not as said; that counts ahead of all else, so whatever pairs the tree has.
func TestForm(t *testing.T) {
	b := lay(t, 5, 400)
	old := pairs{"a": "1", "m": "2"}
	to := func(now pairs) []api.Item { return head(old, now) }
	with := func(k, v string) pairs { return pairs{"a": "1", "m": "2", k: v} }
	same := to(old)
	for what, l := range map[string][][]api.Item{
		"no items":                {},
		"the number alone":        {{num(88)}},
		"one digest":              {same[:2]},
		"another number":          {{num(87)}, same[1:]},
		"the number below 0":      {{num(-88)}, same[1:]},
		"a text for the number":   {{txt("\x58")}, same[1:]},
		"no text for the number":  {{txt("")}, same[1:]},
		"no number":               {same[1:]},
		"the number twice":        {{num(88)}, same},
		"a number for a digest":   {{num(88), num(32)}, same[2:]},
		"and for the other one":   {same[:2], {num(32)}},
		"a short digest":          {{num(88), txt(digest(old)[1:])}, same[2:]},
		"a short other one":       {same[:2], {txt(digest(old)[1:])}},
		"a long digest":           {{num(88), txt(digest(old) + "x")}, same[2:]},
		"a long other one":        {same[:2], {txt(digest(old) + "x")}},
		"empty digests":           {{num(88), txt(""), txt("")}},
		"a key alone":             {to(with("k", "")), {txt("k")}},
		"a key and a number":      {to(with("k", "")), {txt("k"), num(1)}},
		"a key and a value":       {to(with("k", "1")), {txt("k"), txt("1")}},
		"a key that is a number":  {to(old), {num(5), num(1), txt("1")}},
		"a drop of a number":      {to(pairs{"a": "1"}), {num(5), num(0)}},
		"a value that is one":     {to(with("k", "")), {txt("k"), num(1), num(0)}},
		"a value that is another": {to(with("k", "")), {txt("k"), num(1), num(7)}},
		"a drop with a value":     {to(pairs{"a": "1"}), {txt("m"), num(0), txt("2")}},
		"a drop with none":        {to(pairs{"a": "1"}), {txt("m"), num(0), txt("")}},
		"2 for 1":                 {to(with("k", "1")), {txt("k"), num(2), txt("1")}},
		"-1 for 1":                {to(with("k", "1")), {txt("k"), num(-1), txt("1")}},
		"-1 for 0":                {to(pairs{"a": "1"}), {txt("m"), num(-1)}},
		"a number behind":         {to(with("k", "1")), puts("k", "1"), {num(0)}},
		"an empty text behind":    {to(with("k", "1")), puts("k", "1"), {txt("")}},
		"an empty key":            {to(with("k", "1")), puts("", "1"), puts("k", "1")},
		"an empty key alone":      {to(old), puts("", "1")},
		"a drop of an empty key":  {to(old), drops("")},
		"a key of 25 bytes":       {to(with(long(25), "1")), puts(long(25), "1")},
		"a drop of one":           {to(old), drops(long(25))},
		"a key of 4000 bytes":     {to(with(long(4000), "1")), puts(long(4000), "1")},
		"a value of 301 bytes":    {to(with("k", long(301))), puts("k", long(301))},
		"a value of 4000 bytes":   {to(with("k", long(4000))), puts("k", long(4000))},
		"falling keys":            {to(pairs{"a": "1", "m": "2", "k": "1", "j": "1"}), puts("k", "1"), puts("j", "1")},
		"a key twice":             {to(with("k", "2")), puts("k", "1"), puts("k", "2")},
		"a put and a drop":        {to(old), puts("k", "1"), drops("k")},
		"a drop and a put":        {to(pairs{"a": "2", "m": "2"}), drops("a"), puts("a", "2")},
		"falling drops":           {to(pairs{}), drops("m"), drops("a")},
		"a drop twice":            {to(pairs{"a": "1"}), drops("m"), drops("m")},
	} {
		s := sealed(t, l...)
		refuses(t, what, b.tree(t, old), s, api.ErrForm)
		refuses(t, what+", an empty tree", b.tree(t, pairs{}), s, api.ErrForm)
	}
	for _, now := range []pairs{with("k", "1"), {"m": "2"}, {}, with("k", ""), with(long(24), long(300)), with("\x00", ""), with("a", "")} {
		receives(t, b.tree(t, old), sealed(t, itemsOf(old, now)), now)
		refuses(t, "an empty tree", b.tree(t, pairs{}), sealed(t, itemsOf(old, now)), api.ErrBusy)
	}
}

// P16.3: changes that fit no tree of the first digest, and digests that no changes lead to.
func TestMisfits(t *testing.T) {
	b := lay(t, 5, 400)
	old := pairs{"a": "1", "m": "2"}
	for what, c := range map[string]struct {
		now     pairs
		changes [][]api.Item
	}{
		"a drop of what isn't there": {pairs{"a": "1", "m": "2"}, [][]api.Item{drops("k")}},
		"one behind others":          {pairs{"a": "3"}, [][]api.Item{puts("a", "3"), drops("m"), drops("z")}},
		"one ahead of others":        {pairs{"a": "1"}, [][]api.Item{drops("c"), drops("m")}},
		"a put of what is there":     {pairs{"a": "1", "m": "2"}, [][]api.Item{puts("a", "1")}},
		"one behind another":         {pairs{"a": "3", "m": "2"}, [][]api.Item{puts("a", "3"), puts("m", "2")}},
		"another tree":               {pairs{"a": "1", "m": "2", "k": "2"}, [][]api.Item{puts("k", "1")}},
		"too few changes":            {pairs{"a": "3", "m": "3"}, [][]api.Item{puts("a", "3")}},
		"no changes":                 {pairs{"a": "3"}, nil},
		"too many changes":           {pairs{"a": "3", "m": "2"}, [][]api.Item{puts("a", "3"), drops("m")}},
		"the old tree":               {old, [][]api.Item{puts("a", "3"), drops("m")}},
		"another way round":          {pairs{"a": "3"}, [][]api.Item{drops("a"), puts("m", "3")}},
	} {
		s := sealed(t, head(old, c.now), slices.Concat(c.changes...))
		x := b.tree(t, old)
		refuses(t, what, x, s, api.ErrForm)
		syncs(t, x)
		refuses(t, what, x, s, api.ErrForm)
		for _, m := range []pairs{{}, {"a": "1"}, {"a": "1", "m": "3"}, {"a": "1", "m": "2", "n": ""}, c.now} { // the tree is looked at ahead of the changes
			if !maps.Equal(m, old) {
				refuses(t, what+", another tree", b.tree(t, m), s, api.ErrBusy)
			}
		}
	}
}

// P16.3: a stream that begins at another tree, whether at one that this one came of, or that came of this one.
func TestOtherTrees(t *testing.T) {
	b := lay(t, 16, 2000)
	l := b.pasts(t, rand.New(rand.NewSource(7)), 8, 25)
	for _, old := range l {
		for _, now := range l {
			s := b.sends(t, old, now)
			for _, other := range l {
				if !maps.Equal(other.m, old.m) {
					refuses(t, "another tree", b.open(t, other.root), s, api.ErrBusy)
				}
			}
		}
	}
}

// P16.3: what a refused stream changed on its way is undone: the tree's next Sync tells as if nothing had been received.
func TestUndone(t *testing.T) {
	b := lay(t, 5, 2000)
	old := many(100, 60)
	root := b.root(t, old)
	now := maps.Clone(old)
	for i := range 60 {
		delete(now, key(i))
		now[key(i+200)] = "new"
	}
	s := sealed(t, head(old, pairs{}), itemsOf(old, now)[3:])
	x, y := b.open(t, root), b.open(t, root)
	refuses(t, "another digest", x, s, api.ErrForm)
	if p, gone, e := x.Sync(); p != root || len(gone) != 0 || e != api.OK {
		t.Error(p, len(gone), e)
	}
	for _, x := range []*tree.Tree{x, y} {
		want(t, "Put", x.Put(key(3), "other"), api.OK)
	}
	refuses(t, "another tree", x, s, api.ErrBusy)
	_, gone, e := x.Sync()
	want(t, "Sync", e, api.OK)
	_, must, e := y.Sync()
	want(t, "Sync", e, api.OK)
	if !slices.Equal(gone, must) {
		t.Errorf("%d blocks are gone, not %d", len(gone), len(must))
	}
}

// P1, P16.1: no tree, and one that Open didn't make; ahead of bytes that are none.
func TestNoTree(t *testing.T) {
	for _, x := range []*tree.Tree{nil, new(tree.Tree)} {
		for _, s := range [][]byte{nil, {}, {1}, sealed(t, head(pairs{}, pairs{})), make([]byte, 60001)} {
			want(t, "Receive", stream.Receive(x, s), api.ErrArg)
		}
	}
}

// P16.4: what is handed in isn't changed, its spare room neither, and not kept.
func TestHandedIn(t *testing.T) {
	b := lay(t, 5, 400)
	old, now := pairs{"a": "1"}, pairs{"a": "2", "b": "3"}
	whole := append(sealed(t, itemsOf(old, now)), 7, 7, 7, 7)
	s := slices.Clone(whole)
	n := len(s) - 4
	x := b.tree(t, old)
	receives(t, x, s[:n], now)
	refuses(t, "again", x, s[:n], api.ErrBusy)
	refuses(t, "cut", x, s[:n-1], api.ErrForm)
	if !bytes.Equal(s, whole) {
		t.Error("Receive changes what it is given")
	}
	clear(s)
	tells(t, x, now)
	tells(t, b.open(t, syncs(t, x)), now)
}

// wide is a tree of far more blocks than a store remembers, and a stream that changes some pairs of it.
func wide(t *testing.T) (b bed, root api.Ptr, old, now pairs, s []byte) {
	t.Helper()
	b = lay(t, 5, 2000)
	old = many(400, 250)
	root = b.root(t, old)
	want(t, "Flush", b.r.Flush(), api.OK)
	now = maps.Clone(old)
	for i := range 40 {
		delete(now, key(10*i))
		now[key(10*i+5)] = "other"
	}
	return b, root, old, now, sealed(t, itemsOf(old, now))
}

// P16.3: the power goes off while what is read is healed on the way of a Receive: it is done wholly, or not at all.
func TestReceiveDown(t *testing.T) {
	b, root, old, now, s := wide(t)
	down := 0
	for writes := 0; ; writes += 10 {
		x := b.anew(t).open(t, root)
		want(t, "Replace", b.r.Replace(writes%5), api.OK)
		b.r.Arm(writes)
		e := stream.Receive(x, s)
		b.r.Crash(nil)
		if e == api.OK {
			tells(t, x, now)
			break
		}
		want(t, "Receive", e, api.ErrDown)
		tells(t, x, old)
		if x.Dirty() {
			t.Fatal("dirty")
		}
		down++
	}
	if down < 5 {
		t.Error(down)
	}
}

// P16.2, P16.3: though three drives are lost a stream is received; with four the store's error is told, and nothing changed.
func TestReceiveLost(t *testing.T) {
	b, root, old, now, s := wide(t)
	for _, drive := range []int{0, 2, 3} {
		want(t, "Lose", b.r.Lose(drive), api.OK)
	}
	fresh := b.anew(t)
	receives(t, fresh.open(t, root), s, now)
	want(t, "Lose", b.r.Lose(4), api.OK)
	x := b.anew(t).open(t, root)
	want(t, "Receive", stream.Receive(x, s), api.ErrIO)
	want(t, "Receive", stream.Receive(x, s[1:]), api.ErrForm) // asks for nothing of the drives
	if x.Dirty() {
		t.Error("dirty")
	}
	tells(t, lay(t, 5, 2000).tree(t, old), old)
}

// P16.2: a store without room is noticed by a tree's Sync alone.
func TestReceiveFull(t *testing.T) {
	b := lay(t, 5, 60)
	old, now := pairs{"a": "1"}, many(60, 250)
	x := b.tree(t, old)
	root := syncs(t, x)
	receives(t, x, sealed(t, itemsOf(old, now)), now)
	if _, _, e := x.Sync(); e != api.ErrSpace {
		t.Error(e)
	}
	tells(t, x, now)
	tells(t, b.open(t, root), old)
}

// P16.4: Receive and Digest write nothing.
func TestNothingWritten(t *testing.T) {
	b := lay(t, 5, 400)
	old, now := many(30, 30), many(20, 40)
	x := b.open(t, b.root(t, old))
	used, waits, counts := b.Used(), b.r.Pending(), b.Counts()
	receives(t, x, sealed(t, itemsOf(old, now)), now)
	digests(t, x, now)
	if !slices.Equal(b.Used(), used) || b.r.Pending() != waits || b.Counts().Puts != counts.Puts {
		t.Error("something was written")
	}
	var none *store.Store
	if s, e := stream.Send(none, api.Ptr{}, api.Ptr{}); len(s) != 0 || e != api.ErrArg {
		t.Error(s, e)
	}
}
