package pool_test

import (
	"fmt"
	"strings"
	"testing"

	"hoard/api"
	"hoard/step"
)

// act is a line of a script: what is done, and whether that it is answered OK says that all lasts.
type act struct {
	do    func(b *bed) (api.Errno, any)
	lasts bool
}

// call is a line with a call on a dataset.
func call(set string, c step.Call) act {
	return act{do: func(b *bed) (api.Errno, any) {
		r := b.Call(set, c)
		return r.Err, r
	}}
}

// makes is a line with a call that makes all last.
func makes(do func(b *bed) api.Errno) act {
	return act{func(b *bed) (api.Errno, any) { return do(b), nil }, true}
}

// fsync and sync are lines.
var (
	fsync = makes(func(b *bed) api.Errno { return b.Fsync() })
	sync  = makes(func(b *bed) api.Errno { return b.Sync() })
)

// snapshot, clone, destroy and copies are lines too.
func snapshot(name string) act { return makes(func(b *bed) api.Errno { return b.Snapshot(name) }) }
func clone(snap, name string) act {
	return makes(func(b *bed) api.Errno { return b.Clone(snap, name) })
}
func destroy(name string) act { return makes(func(b *bed) api.Errno { return b.Destroy(name) }) }
func copies(from, to, name string) act {
	return makes(func(b *bed) api.Errno {
		s, e := b.Send(from, to)
		if e != api.OK {
			return e
		}
		return b.Receive(from, name, s)
	})
}

// clients is a line with two clients' calls, whose steps lie between one another's.
func clients(set string, c, d step.Call) act {
	return act{do: func(b *bed) (api.Errno, any) {
		var told []any
		for i, x := range []step.Call{c, d} {
			told = append(told, b.Begin(set, i, x))
		}
		for _, i := range []int{0, 1, 0, 1, 0, 1, 1, 1} {
			n, e := b.Step(set, i)
			if e == api.ErrDown {
				return e, nil
			}
			told = append(told, n, e)
		}
		for i := range 2 {
			r, e := b.Result(set, i)
			if e == api.ErrDown || r.Err == api.ErrDown {
				return api.ErrDown, nil
			}
			told = append(told, r, e)
		}
		return api.OK, told
	}}
}

// script is all that may be done to a pool. (With a log of 12 sectors it is full now and then.)
func script() []act {
	return []act{
		call("main", one(step.Create, "/f")), call("main", one(step.Open, "/f")), call("main", at(step.Write, 1, 0, 0, long(700, 1))),
		fsync,
		call("main", one(step.Mkdir, "/d")), call("main", two(step.Link, "/f", "/d/g")), call("main", at(step.Write, 1, 300, 0, " x y ")),
		fsync, fsync,
		call("main", two(step.Rename, "/f", "/d/h")), call("main", at(step.Truncate, 1, 0, 400, "")), call("main", one(step.Create, "/d/h")),
		clients("main", one(step.Create, "/c"), one(step.Stat, "/c")),
		snapshot("main@a"),
		call("main", one(step.Unlink, "/d/g")), call("main", at(step.Write, 1, 0, 0, long(4096, 2))),
		fsync, // the log has no room
		call("main", one(step.Create, "/d/i")), clone("main@a", "b"),
		call("b", one(step.Open, "/d/g")), call("b", at(step.Write, 1, 100, 0, strings.Repeat("b", 600))), call("main", one(step.Unlink, "/c")),
		call("b", one(step.Unlink, "/c")), call("b", one(step.Mkdir, "/e")), fsync,
		call("main", one(step.Mkdir, "/e")), call("b", one(step.Rmdir, "/e")), call("main@a", one(step.Open, "/d/g")), call("main@a", at(step.Read, 1, 0, 9, "")),
		sync,
		snapshot("b@z"), copies("main@a", "b@z", "r"), copies("", "b@z", "s"), call("r", one(step.Create, "/r")), call("s", one(step.Unlink, "/d/h")),
		fsync,
		destroy("r"), call("s", two(step.Rename, "/d", "/dd")), destroy("main@a"), destroy("b@z"), destroy("b"), destroy("main@a"),
		call("main", at(step.Truncate, 1, 0, 10, "")), fsync, call("main", one(step.Unlink, "/d/h")), sync, call("main", one(step.List, "/d")),
		call("main", at(step.Read, 1, 0, 5, "")), destroy("s"), sync,
	}
}

// run does lines on a pool till the power goes off: how many were done, from which on what was left needn't last, and what was answered.
func run(b *bed, l []act) (done, lasts int, told []string) {
	for i, x := range l {
		e, is := x.do(b)
		if e == api.ErrDown {
			return i, lasts, told
		}
		told = append(told, fmt.Sprint(e, is))
		if x.lasts && e == api.OK {
			lasts = i + 1
		}
	}
	return len(l), lasts, told
}

// views is what is seen ahead of each line, and behind the last.
func views(t *testing.T, b *bed, l []act) []string {
	t.Helper()
	r := []string{b.view(t)}
	for _, x := range l {
		x.do(b)
		r = append(r, b.view(t))
	}
	return r
}
