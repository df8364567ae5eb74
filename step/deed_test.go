package step_test

import (
	"math/rand"
	"slices"
	"testing"

	"hoard/api"
	"hoard/step"
)

// P15.1: the calls that may change the world, and answered OK, are told, once, in the order of their tickets, as they were handed in.
func TestDeeds(t *testing.T) {
	b := lay(t)
	b.told(t)
	odd := step.Call{Kind: step.Mkdir, Path: "/d", To: "/to", D: 3, Off: -4, N: 5, Data: "data"}
	made := []step.Call{
		odd, path1(step.Create, "/d/f"), path1(step.Create, "/g"), path2(step.Link, "/d/f", "/h"), path2(step.Rename, "/d/f", "/i"),
		path1(step.Unlink, "/h"), path1(step.Rmdir, "/d"),
	}
	b.all(t, made...)
	var must []step.Deed
	for _, c := range made {
		must = append(must, step.Deed{Call: c})
	}
	b.told(t, must...)
	b.told(t) // once alone

	b.all(t, path1(step.Open, "/g"), path1(step.Open, "/i"), path1(step.List, "/"), path1(step.Stat, "/g"))
	b.all(t, at(step.Read, 1, 0, 1, ""), at(step.Close, 2, 0, 0, ""))
	b.told(t) // neither the world nor a file is others by them
	for _, c := range []step.Call{
		path1(step.Create, "/g"), path1(step.Mkdir, "/g"), path1(step.Open, "/x"), path2(step.Rename, "/x", "/y"), path1(step.Unlink, "/x"),
		path1(step.Rmdir, "/g"), path2(step.Link, "/x", "/y"), at(step.Write, 1, -1, 0, "x"), at(step.Write, 2, 0, 0, "x"),
		at(step.Truncate, 1, 0, 4097, ""), at(step.Truncate, 3, 0, 0, ""), {},
	} {
		if r := b.Do(c); r.Err == api.OK {
			t.Fatal(c, r)
		}
	}
	b.told(t) // none that was refused
}

// P15.1: of the kinds 6 and 7 a deed has the number of the descriptor's file; those that had nothing to do, and answered OK, are told too.
func TestDeedNumbers(t *testing.T) {
	b := lay(t)
	b.all(t, path1(step.Create, "/f"), path1(step.Create, "/g"), path1(step.Open, "/g"), path1(step.Open, "/f"))
	b.Deeds()
	write := step.Call{Kind: step.Write, Path: "/p", To: "/q", D: 1, Off: 7, N: 9, Data: "abc"}
	calls := []step.Call{
		write, at(step.Truncate, 2, 0, 5, ""), at(step.Write, 2, 0, 0, ""), at(step.Truncate, 2, 0, 5, ""),
		path2(step.Rename, "/f", "/f"), path1(step.Unlink, "/g"), at(step.Close, 1, 0, 0, ""), path2(step.Rename, "/f", "/g"),
		at(step.Write, 2, 4095, 0, "z"),
	}
	b.all(t, calls...)
	numbers := []int{3, 2, 2, 2, 0, 0, -1, 0, 2}
	var must []step.Deed
	for i, c := range calls {
		if numbers[i] >= 0 {
			must = append(must, step.Deed{Call: c, Ino: numbers[i]})
		}
	}
	b.told(t, must...)
}

// again does a deed in a world.
func (b bed) again(d step.Deed) api.Errno {
	c := d.Call
	switch c.Kind {
	case step.Write:
		return b.w.Write(d.Ino, c.Off, c.Data)
	case step.Truncate:
		return b.w.Truncate(d.Ino, c.N)
	}
	return b.Do(c).Err
}

// P15.1, P15.2: deeds that are told now and then, done again in another world, make the same of it.
func TestDeedsAgain(t *testing.T) {
	for seed := range 40 {
		rnd := rand.New(rand.NewSource(int64(seed)))
		g, other := newGame(t, seed), lay(t)
		for range 12 {
			for range rnd.Intn(120) {
				g.play(t)
			}
			for _, d := range g.Deeds() {
				if d.Ino != 0 != (d.Call.Kind == step.Write || d.Call.Kind == step.Truncate) {
					t.Fatal(d)
				}
				want(t, "a deed done again", other.again(d), api.OK)
			}
			if !slices.Equal(g.pairs(t), other.pairs(t)) {
				t.Fatal("another world")
			}
		}
	}
}
