package shell_test

import (
	"bytes"
	"fmt"
	"math"
	"math/rand"
	"strconv"
	"strings"
	"testing"

	"hoard/api"
	"hoard/array"
	"hoard/dataset"
	"hoard/dead"
	"hoard/field"
	"hoard/intent"
	"hoard/label"
	"hoard/parity"
	"hoard/pool"
	"hoard/rack"
	"hoard/sha"
	"hoard/shell"
	"hoard/step"
	"hoard/store"
	"hoard/tree"
)

// newRack is a rack that isn't refused.
func newRack(t *testing.T, drives, sectors int) *rack.Rack {
	t.Helper()
	r, e := rack.New(drives, sectors)
	want(t, "rack.New", e, api.OK)
	return r
}

// newStore is a store on five drives.
func newStore(t *testing.T) *store.Store {
	t.Helper()
	a, e := array.New(newRack(t, 5, 500), 0)
	want(t, "array.New", e, api.OK)
	s, e := store.New(a, nil, 1)
	want(t, "store.New", e, api.OK)
	return s
}

// The examples of the whole, 1 to 4.
func TestWholeDrives(t *testing.T) {
	r := newRack(t, 2, 1)
	b := bytes.Repeat([]byte{7}, api.Sector)
	want(t, "Write", r.Write(0, 0, b), api.OK)
	want(t, "Write", r.Write(1, 0, b), api.OK)
	r.Crash([]int{0, 1})
	lost, _ := r.Read(0, 0)
	kept, _ := r.Read(1, 0)
	if !bytes.Equal(lost, make([]byte, api.Sector)) || !bytes.Equal(kept, b) {
		t.Error("rack")
	}

	var f field.Field
	cols, e := parity.Make([][]byte{{1}, {1}})
	if f.Mul(2, 128) != 29 || e != api.OK || fmt.Sprint(cols) != "[[0] [3] [5]]" {
		t.Error("field, parity", cols)
	}

	r = newRack(t, 5, 20)
	a, e := array.New(r, 0)
	want(t, "array.New", e, api.OK)
	b = bytes.Repeat([]byte("block"), 100)
	want(t, "Write", a.Write(0, b), api.OK)
	for _, drive := range []int{0, 1, 4} {
		r.Lose(drive)
	}
	if got, _, e := a.Read(0, len(b), sha.Sum(b)); e != api.OK || !bytes.Equal(got, b) {
		t.Error("array", e)
	}

	r = newRack(t, 5, 20)
	old := label.Uber{Txg: 5, Root: api.Ptr{Size: 1, Sum: sha.Sum(nil)}}
	now := label.Uber{Txg: 6, Root: api.Ptr{Size: 2, Sum: sha.Sum(b)}}
	for _, u := range []label.Uber{old, now} {
		if n, e := label.Write(r, u); n != 5 || e != api.OK {
			t.Fatal(n, e)
		}
	}
	want(t, "Flush", r.Flush(), api.OK)
	for drive, must := range []label.Uber{now, now, now, now, old} {
		want(t, "Rot", r.Rot(drive, 6, drive), api.OK)
		if u, e := label.Newest(r); u != must || e != api.OK {
			t.Error("label", u, e)
		}
	}
}

// The examples of the whole, 5 to 8.
func TestWholeTrees(t *testing.T) {
	s := newStore(t)
	x, e := tree.Open(s, api.Ptr{})
	want(t, "Open", e, api.OK)
	want(t, "Put", x.Put("a", "1"), api.OK)
	root, _, e := x.Sync()
	want(t, "Sync", e, api.OK)
	want(t, "Put", x.Put("a", "2"), api.OK)
	_, _, e = x.Sync()
	want(t, "Sync", e, api.OK)
	old, e := tree.Open(s, root)
	want(t, "Open", e, api.OK)
	if v, e := old.Get("a"); v != "1" || e != api.OK {
		t.Error("tree", v, e)
	}

	line, e := dead.Snapshot(dead.Line{}, 7)
	want(t, "Snapshot", e, api.OK)
	p := api.Ptr{Size: 1, Birth: 5, Sum: sha.Sum(nil)}
	line, free, e := dead.Kill(line, p)
	if free || e != api.OK {
		t.Error("dead", free, e)
	}
	if _, l, e := dead.Destroy(line, 0); len(l) != 1 || l[0] != p || e != api.OK {
		t.Error("dead", l, e)
	}

	d, e := dataset.Open(newStore(t), api.Ptr{})
	want(t, "Open", e, api.OK)
	want(t, "Create", d.Create("a"), api.OK)
	x, _ = d.Tree("a")
	want(t, "Put", x.Put("k", "1"), api.OK)
	want(t, "Snapshot", d.Snapshot("a@x"), api.OK)
	want(t, "Put", x.Put("k", "2"), api.OK)
	want(t, "Clone", d.Clone("a@x", "b"), api.OK)
	x, _ = d.Tree("b")
	if v, e := x.Get("k"); v != "1" || e != api.OK {
		t.Error("dataset", v, e)
	}

	r := newRack(t, 5, 50)
	log, _, e := intent.Open(r, 8, 40, 3)
	want(t, "intent.Open", e, api.OK)
	want(t, "Append", log.Append("abc"), api.OK)
	want(t, "Flush", r.Flush(), api.OK)
	r.Crash(nil)
	if _, l, e := intent.Open(r, 8, 40, 3); len(l) != 1 || l[0] != "abc" || e != api.OK {
		t.Error("intent", l, e)
	}
}

// The examples of the whole, 9 and 10: by lines.
func TestWholePool(t *testing.T) {
	r := newRack(t, 6, 500)
	p, e := pool.Create(r, 40)
	want(t, "Create", e, api.OK)
	want(t, "Call", p.Call("main", step.Call{Kind: step.Create, Path: "/f"}).Err, api.OK)
	want(t, "Fsync", p.Fsync(), api.OK)
	r.Crash(nil)
	for _, drive := range []int{1, 3, 4} {
		want(t, "Lose", r.Lose(drive), api.OK)
	}
	p, e = pool.Import(r, 40)
	want(t, "Import", e, api.OK)
	want(t, "Call", p.Call("main", step.Call{Kind: step.Stat, Path: "/f"}).Err, api.OK)

	script(t, 6, 500, 40, "main create /f", "ok 2", "fsync", "ok", "lose 1", "ok", "lose 3", "ok", "lose 4", "ok", "crash", "ok", "main list /", "ok f")
	data := strings.Repeat("0123456789abcdef", 250)
	l := run(t, 6, 500, 40, "main create /f", "main open /f", "main write 1 0 "+data, "sync", "replace 0", "replace 2", "replace 5", "scrub", "sync",
		"lose 1", "lose 3", "lose 4", "main read 1 0 4096", "crash", "main open /f", "main read 1 0 4096")
	for i, must := range map[int]string{8: "ok", 12: "ok " + data, 13: "ok", 15: "ok " + data} {
		if l[i] != must {
			t.Errorf("line %d: %.100q", i, l[i])
		}
	}
	if !strings.HasPrefix(l[7], "ok ") || !strings.HasSuffix(l[7], " 0") {
		t.Error(l[7])
	}
}

// P4: all drives fail, three at a time, in turn, in each way, with new ones, a scrub and a Sync in between: that changes no answer.
func TestWholeTurns(t *testing.T) {
	t.Parallel()
	for way := range 3 {
		p := newPlot(way, 6, 700)
		p.add("main create /f", "main open /f", "main write 1 0 "+strings.Repeat("5b", 2500), "main mkdir /d", "snapshot main@s")
		for turn := range 8 {
			p.add("main link /f /d/"+strconv.Itoa(turn), "main write 1 "+strconv.Itoa(300*turn)+" "+strings.Repeat("0"+strconv.Itoa(turn), 200))
			for i := range 3 {
				d := (2*turn + i) % 6
				switch (way + i) % 3 {
				case 0:
					p.add(fmt.Sprint("lose ", d))
				case 1:
					p.add(fmt.Sprint("replace ", d))
				default:
					p.add(fmt.Sprintf("rot %d %d 1", d, turn%8), fmt.Sprintf("rot %d %d 1", d, 50+turn), fmt.Sprintf("rot %d %d 9", d, 60+turn))
				}
				p.add("main read 1 0 4096", "main@s open /f", "main@s read 1 0 4096", "main@s close 1")
			}
			for i := range 3 {
				if (way+i)%3 == 0 {
					p.add(fmt.Sprint("replace ", (2*turn+i)%6))
				}
			}
			p.add("scrub", "sync", "main list /d")
		}
		p.add("crash", "main list /d", "main@s list /d", "main open /f", "main read 1 0 4096")
		if len(p.lines) > 200 {
			t.Fatal(len(p.lines))
		}
		p.holds(t, 20)
	}
}

// P5: a snapshot never changes; a clone begins as it and goes its own way; what is copied is the same, though drives fail, and behind crashes.
func TestWholeSnapshots(t *testing.T) {
	one, two := strings.Repeat("11", 1000), strings.Repeat("22", 1000)
	script(t, 5, 600, 30,
		"main create /f", "ok 2", "main open /f", "ok 1", "main write 1 0 "+one, "ok", "snapshot main@a", "ok", "main write 1 0 "+two, "ok", "main mkdir /d", "ok 3",
		"clone main@a c", "ok", "c create /g", "ok 3", "c unlink /f", "ok", "snapshot main@b", "ok", "main unlink /f", "ok", "main rmdir /d", "ok",
		"copy main@b whole", "ok", "copy main@a main@b part", "ok", "replace 0", "ok", "replace 1", "ok", "lose 2", "ok", "crash", "ok",
		"main list /", "ok", "c list /", "ok g", "main@a list /", "ok f", "main@b list /", "ok d f", "whole list /", "ok d f", "part list /", "ok d f",
		"main@a open /f", "ok 1", "main@a read 1 0 1000", "ok "+one, "main@b open /f", "ok 1", "main@b read 1 0 1000", "ok "+two,
		"whole open /f", "ok 1", "whole read 1 0 1000", "ok "+two, "part open /f", "ok 1", "part read 1 0 1000", "ok "+two,
		"part write 1 0 "+one, "ok", "whole read 1 0 1000", "ok "+two, "main@b read 1 0 1000", "ok "+two, "part create /x", "ok 4", "whole create /x", "ok 4")
}

// P6: however many drives fail, what is read is right, or an error; a pool of which too much is gone isn't imported.
func TestWholeRuin(t *testing.T) {
	t.Parallel()
	told := map[string]int{}
	for seed := range 200 {
		p := newPlot(seed, 5+seed%4, 600)
		for range 50 {
			p.add(anyAsk(p.rnd))
			if p.rnd.Intn(8) == 0 {
				p.change()
			}
		}
		p.add("sync", "crash")
		built := len(p.lines)
		m := newMemory()
		for _, line := range p.lines {
			if m.reply(line); line == "crash" {
				m = m.copy()
			}
		}
		for range 12 {
			d := p.rnd.Intn(p.drives)
			switch p.rnd.Intn(4) {
			case 0:
				p.add("lose " + strconv.Itoa(d))
			case 1:
				p.add("replace " + strconv.Itoa(d))
			case 2:
				p.add(anyOf(p.rnd, []string{"scrub", "crash"}))
			default:
				for range 5 {
					p.add(fmt.Sprintf("rot %d %d %d", d, 8+p.rnd.Intn(60), p.rnd.Intn(1<<20)))
				}
			}
			p.add("names", "main list /", "main stat /a", "main open /a", "main read 1 0 5000", "main close 1", "main@x list /")
		}
		p.lines = p.lines[:min(len(p.lines), 200)]
		open, none := false, false
		for i, is := range run(t, p.drives, p.sectors, 10, p.lines...) {
			if i < built {
				continue
			}
			line := p.lines[i]
			told[is]++
			must, _ := m.reply(line)
			switch {
			case line == "crash":
				none = is != "ok"
				m, open = m.copy(), false
				if is != "ok" && is != "error 4" && is != "error 7" {
					t.Fatalf("seed %d, line %d, %s: %s", seed, i, line, is)
				}
				continue
			case must == "error 2" || line == "scrub":
				continue // of the rack
			case none && is == "error 1":
				continue
			case is == "error 4" && !none:
			case strings.HasPrefix(line, "main read") && is == "error 13" && !open, strings.HasPrefix(line, "main close") && is == "error 13" && !open:
				// What should be open couldn't be opened.
			case is != must || none:
				t.Fatalf("seed %d, line %d, %.100q: %.100q, not %.100q", seed, i, line, is, must)
			}
			switch {
			case line == "main open /a":
				open = is == must
			case line == "main close 1":
				open = false
			}
		}
	}
	if told["error 4"] == 0 || told["error 1"] == 0 || told["error 7"] == 0 {
		t.Error("never told", told["error 4"], told["error 1"], told["error 7"])
	}
}

// P6: blocks that nobody needs any longer are given back, so that there is always room for others; those that a snapshot needs aren't.
func TestWholeRoom(t *testing.T) {
	p := newPlot(1, 5, 401)
	p.add("main create /f", "main open /f", "main write 1 0 "+strings.Repeat("77", 4096), "snapshot main@s")
	for i := range 45 {
		p.add("main write 1 0 "+strings.Repeat(fmt.Sprintf("%02d", i), 4096), "sync", "snapshot main@t", "destroy main@t")
	}
	p.add("main read 1 0 4096", "main@s open /f", "main@s read 1 0 4096", "destroy main@s", "main truncate 1 0", "sync", "scrub", "crash", "main list /")
	p.holds(t, 1)
}

// P1: lines of any bytes, and numbers at the ends of their types, wherever they stand: every line is answered, and none panics.
func TestWholeWild(t *testing.T) {
	t.Parallel()
	rnd := rand.New(rand.NewSource(194))
	wild := []string{"4611686018427387904", "-4611686018427387904", "4611686018427387903", "0", "-1", "1", "9223372036854775807", "-9223372036854775808", "2147483648"}
	begin := []string{"main create /f", "main open /f", "main write 1 0 616263", "snapshot main@s", "clone main@s a"}
	for range 60 {
		lines := append([]string{}, begin...)
		for len(lines) < 200 {
			switch rnd.Intn(5) {
			case 0:
				b := make([]byte, rnd.Intn(60))
				rnd.Read(b)
				lines = append(lines, string(b))
			case 1:
				lines = append(lines, anyLine(rnd))
			case 2:
				lines = append(lines, anyOrder(rnd))
			default:
				l := []string{anyOf(rnd, []string{"main close", "main read", "main write", "main truncate", "arm", "lose", "replace", "rot", "crash", "a read", "main@s read"})}
				for range rnd.Intn(5) {
					l = append(l, anyOf(rnd, wild))
				}
				lines = append(lines, strings.Join(l, " "))
			}
		}
		for i, is := range run(t, 5+rnd.Intn(12), 500, 1+rnd.Intn(100), lines...) {
			if is != "ok" && !strings.HasPrefix(is, "ok ") && !strings.HasPrefix(is, "error ") {
				t.Fatalf("%q: %q", lines[i], is)
			}
		}
	}
	long := strings.Repeat("a", 1<<20)
	script(t, 5, 500, 40, long, "error 2", strings.Repeat(" ", 1<<20), "error 2", "main list /"+long, "error 2", "main write 1 0 "+long, "error 13", "main read 1 0 "+strings.Repeat("9", 1<<20), "error 2",
		"crash"+strings.Repeat(" 1", 1<<18), "ok", "crash"+strings.Repeat(" -1", 1<<18)+" x", "error 2", "main create /f", "ok 2", "main open /f", "ok 1", "main write 1 0 "+long, "error 14", "main list /", "ok f")
	for _, n := range []int{math.MinInt, math.MaxInt, 1 << 62, -1 << 62} {
		shell.Run(n, n, n, begin)
		shell.Line(long, step.Call{Kind: n, Path: long, To: long, D: n, Off: n, N: n, Data: long})
		shell.Tell(n, step.Result{Err: api.Errno(n), N: n})
	}
	shell.Parse(long)
}
