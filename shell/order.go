package shell

import (
	"hoard/api"
	"hoard/dataset"
)

// order is a kind of line that is no call's: its name, and functions that read the words behind that, and that do what these ask for and write the words behind the ok of its reply.
type order struct {
	name string
	read func(words []string) (asked, bool)
	do   func(b *bench, x asked) ([]string, api.Errno)
}

// asked is what stands behind an order's name.
type asked struct {
	names   []string // of datasets and snapshots
	numbers []int
}

// reader takes a word to what is asked, if it is one of its kind.
type reader func(s string, x *asked) bool

// orders are all kinds of orders.
func orders() []order {
	return []order{
		{"fsync", inTurn(), plain(func(b *bench, _ asked) api.Errno { return b.pool.Fsync() })},
		{"sync", inTurn(), plain(func(b *bench, _ asked) api.Errno { return b.pool.Sync() })},
		{"names", inTurn(), func(b *bench, _ asked) ([]string, api.Errno) { return b.pool.List() }},
		{"snapshot", inTurn(snap), plain(func(b *bench, x asked) api.Errno { return b.pool.Snapshot(x.names[0]) })},
		{"clone", inTurn(snap, set), plain(func(b *bench, x asked) api.Errno { return b.pool.Clone(x.names[0], x.names[1]) })},
		{"destroy", inTurn(set), plain(func(b *bench, x asked) api.Errno { return b.pool.Destroy(x.names[0]) })},
		{"destroy", inTurn(snap), plain(func(b *bench, x asked) api.Errno { return b.pool.Destroy(x.names[0]) })},
		{"copy", inTurn(snap, set), plain(func(b *bench, x asked) api.Errno { return b.copy("", x.names[0], x.names[1]) })},
		{"copy", inTurn(snap, snap, set), plain(func(b *bench, x asked) api.Errno { return b.copy(x.names[0], x.names[1], x.names[2]) })},
		{"scrub", inTurn(), func(b *bench, _ asked) ([]string, api.Errno) { return b.scrub() }},
		{"arm", inTurn(number), plain(func(b *bench, x asked) api.Errno { return b.arm(x.numbers[0]) })},
		{"lose", inTurn(number), plain(func(b *bench, x asked) api.Errno { return b.rack.Lose(x.numbers[0]) })},
		{"replace", inTurn(number), plain(func(b *bench, x asked) api.Errno { return b.rack.Replace(x.numbers[0]) })},
		{"rot", inTurn(number, number, number), plain(func(b *bench, x asked) api.Errno { return b.rack.Rot(x.numbers[0], x.numbers[1], x.numbers[2]) })},
		{"crash", each(number), plain(func(b *bench, x asked) api.Errno { return b.crash(x.numbers) })},
	}
}

// inTurn reads one word by each reader.
func inTurn(readers ...reader) func([]string) (asked, bool) {
	return func(words []string) (asked, bool) {
		var x asked
		if len(words) != len(readers) {
			return asked{}, false
		}
		for i, read := range readers {
			if !read(words[i], &x) {
				return asked{}, false
			}
		}
		return x, true
	}
}

// each reads all words, however many, by one reader.
func each(read reader) func([]string) (asked, bool) {
	return func(words []string) (asked, bool) {
		var x asked
		for _, s := range words {
			if !read(s, &x) {
				return asked{}, false
			}
		}
		return x, true
	}
}

// plain writes no words behind the ok.
func plain(do func(b *bench, x asked) api.Errno) func(*bench, asked) ([]string, api.Errno) {
	return func(b *bench, x asked) ([]string, api.Errno) { return nil, do(b, x) }
}

// set reads a dataset's name.
func set(s string, x *asked) bool {
	isSet, _ := dataset.Name(s)
	x.names = append(x.names, s)
	return isSet
}

// snap reads a snapshot's name.
func snap(s string, x *asked) bool {
	_, isSnap := dataset.Name(s)
	x.names = append(x.names, s)
	return isSnap
}

// number reads a number.
func number(s string, x *asked) bool {
	n, ok := readNumber(s)
	x.numbers = append(x.numbers, n)
	return ok
}
