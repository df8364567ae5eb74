package shell_test

import (
	"math"
	"slices"
	"strconv"
	"strings"
	"testing"

	"hoard/api"
	"hoard/shell"
	"hoard/step"
	"hoard/world"
)

// tells holds Tell to a text.
func tells(t *testing.T, kind int, r step.Result, must string) {
	t.Helper()
	if s := shell.Tell(kind, r); s != must {
		t.Fatalf("Tell(%d, %s): %q, not %q", kind, brief(r), s, must)
	}
}

// full is a result with all its fields.
func full() step.Result {
	return step.Result{N: 7, Data: "a\x00\xff", Names: []string{"a", "b.c"}, Info: world.Info{Ino: 9, Kind: 1, Size: 4096, Links: 8}, Ticket: 5}
}

// P19.1: of each kind what it answers, and nothing else.
func TestTell(t *testing.T) {
	for kind, must := range map[int]string{
		step.Create: "ok 7", step.Mkdir: "ok 7", step.Open: "ok 7", step.Close: "ok", step.Read: "ok 6100ff", step.Write: "ok", step.Truncate: "ok",
		step.Rename: "ok", step.Unlink: "ok", step.Rmdir: "ok", step.Link: "ok", step.List: "ok a b.c", step.Stat: "ok 1 4096 8",
	} {
		tells(t, kind, full(), must)
	}
	tells(t, step.Read, step.Result{}, "ok -")
	tells(t, step.Read, step.Result{N: 3, Names: []string{"x"}}, "ok -")
	tells(t, step.Read, step.Result{Data: strings.Repeat("\x0a", 4096)}, "ok "+strings.Repeat("0a", 4096))
	tells(t, step.List, step.Result{}, "ok")
	tells(t, step.List, step.Result{Names: []string{}, N: 2}, "ok")
	tells(t, step.List, step.Result{Names: []string{"x"}}, "ok x")
	tells(t, step.Stat, step.Result{Info: world.Info{Ino: 1, Kind: 2, Links: 1}}, "ok 2 0 1")
	tells(t, step.Create, step.Result{}, "ok 0")
	tells(t, step.Open, step.Result{N: -3}, "ok -3")
	tells(t, step.Mkdir, step.Result{N: math.MinInt}, "ok -9223372036854775808")
}

// P19.1: of every kind an error is told by its number alone, whatever stands beside it.
func TestTellErrors(t *testing.T) {
	for kind := -2; kind < 20; kind++ {
		for e := api.ErrArg; e <= api.ErrDown; e++ {
			r := full()
			r.Err = e
			tells(t, kind, r, "error "+strconv.Itoa(int(e)))
			tells(t, kind, step.Result{Err: e, Ticket: 3}, "error "+strconv.Itoa(int(e)))
		}
		tells(t, kind, step.Result{Err: -7}, "error -7")
		tells(t, kind, step.Result{Err: 99}, "error 99")
	}
}

// P19.1, P1: of what is no kind nothing is told.
func TestTellOthers(t *testing.T) {
	for _, kind := range []int{math.MinInt, -1, 0, 14, 15, math.MaxInt} {
		tells(t, kind, full(), "ok")
		tells(t, kind, step.Result{}, "ok")
	}
}

// P19.3: what Tell is handed isn't changed, nor its spare room; what it answers is new memory.
func TestTellShares(t *testing.T) {
	l := []string{fresh("abc"), fresh("def"), "spare", "room"}
	was := slices.Clone(l)
	for kind := range 15 {
		for _, n := range []int{0, 1, 2} {
			r := step.Result{Data: fresh("data"), Names: l[:n]}
			s := shell.Tell(kind, r)
			if !slices.Equal(l, was) || r.Data != "data" {
				t.Fatal(kind, "changed what it was handed")
			}
			for _, x := range append(slices.Clone(l), r.Data) {
				if shares(s, x) {
					t.Fatalf("%d: %q shares %q", kind, s, x)
				}
			}
		}
	}
}
