package label_test

import (
	"bytes"
	"crypto/sha256"
	"math"
	"slices"
	"strings"
	"testing"

	"hoard/api"
	"hoard/label"
	"hoard/pack"
	"hoard/rack"
)

// sum is a text of 32 bytes.
var sum = strings.Repeat("s", 32)

// ptr is a pointer, another one for each number.
func ptr(n int) api.Ptr { return api.Ptr{Addr: n, Size: 10, Birth: 1, Sum: sum} }

// uber is a record.
func uber(txg, n int) label.Uber { return label.Uber{Txg: txg, Root: ptr(n)} }

// build is a new rack.
func build(t *testing.T, drives, sectors int) *rack.Rack {
	t.Helper()
	r, e := rack.New(drives, sectors)
	if e != api.OK {
		t.Fatal(e)
	}
	return r
}

// encoded is a record's sector.
func encoded(t *testing.T, u label.Uber) []byte {
	t.Helper()
	b, e := label.Encode(u)
	if e != api.OK || len(b) != api.Sector {
		t.Fatal(u, b, e)
	}
	return b
}

// writes is a Write that must be done, to so many drives.
func writes(t *testing.T, r *rack.Rack, u label.Uber, must int) {
	t.Helper()
	if n, e := label.Write(r, u); n != must || e != api.OK {
		t.Fatalf("Write(%v) = %d, %d, not %d", u, n, e, must)
	}
}

// newest holds Newest to a record.
func newest(t *testing.T, r *rack.Rack, must label.Uber) {
	t.Helper()
	if u, e := label.Newest(r); u != must || e != api.OK {
		t.Errorf("Newest = %v, %d, not %v", u, e, must)
	}
}

// lacks holds Newest to an error.
func lacks(t *testing.T, r *rack.Rack, must api.Errno) {
	t.Helper()
	if u, e := label.Newest(r); u != (label.Uber{}) || e != must {
		t.Errorf("Newest = %v, %d, not %d", u, e, must)
	}
}

// slots holds Slots to its list.
func slots(t *testing.T, r *rack.Rack, drive int, must ...int) {
	t.Helper()
	if l, e := label.Slots(r, drive); !slices.Equal(l, must) || e != api.OK {
		t.Errorf("Slots(%d) = %v, %d, not %v", drive, l, e, must)
	}
}

// noSlots holds Slots to an error.
func noSlots(t *testing.T, r *rack.Rack, drive int, must api.Errno) {
	t.Helper()
	if l, e := label.Slots(r, drive); len(l) != 0 || e != must {
		t.Errorf("Slots(%d) = %v, %d, not %d", drive, l, e, must)
	}
}

// noWrite holds Write to an error.
func noWrite(t *testing.T, r *rack.Rack, u label.Uber, must api.Errno) {
	t.Helper()
	if n, e := label.Write(r, u); n != 0 || e != must {
		t.Errorf("Write(%v) = %d, %d, not %d", u, n, e, must)
	}
}

// off makes the power go off.
func off(r *rack.Rack) {
	r.Arm(0)
	r.Flush()
}

// The chapter's examples.
func TestExamples(t *testing.T) {
	r := build(t, 5, 9)
	lacks(t, r, api.ErrMiss)
	p, q := uber(5, 1), uber(13, 2)
	writes(t, r, p, 5)
	for drive := range 5 {
		if b, e := r.Read(drive, 5); e != api.OK || !bytes.Equal(b, encoded(t, p)) {
			t.Error(drive, b, e)
		}
		slots(t, r, drive, -1, -1, -1, -1, -1, 5, -1, -1)
	}
	newest(t, r, p)
	writes(t, r, q, 5)
	slots(t, r, 4, -1, -1, -1, -1, -1, 13, -1, -1)
	newest(t, r, q)
	if b, e := label.Encode(label.Uber{Txg: 0, Root: ptr(1)}); len(b) != 0 || e != api.ErrForm {
		t.Error(b, e)
	}
}

// P8.1: a record's sector, byte by byte.
func TestSector(t *testing.T) {
	body := "\x01\x9a\x01" + "\x01\x0a" + "\x02\x29" + "\x01\x06\x01\x80\x10\x01\x02\x02\x20" + sum
	sealed := sha256.Sum256([]byte(body))
	must := append([]byte{byte(len(body) + 32)}, body...)
	must = append(must, sealed[:]...)
	must = append(must, make([]byte, 128-len(must))...)
	u := label.Uber{Txg: 5, Root: api.Ptr{Addr: 3, Size: 1024, Birth: 1, Sum: sum}}
	if b := encoded(t, u); !bytes.Equal(b, must) {
		t.Errorf("%q, not %q", b, must)
	}
	if v, e := label.Decode(must); v != u || e != api.OK {
		t.Error(v, e)
	}
}

// P8.1: Encode and Decode to the ends of the numbers, each the other's inverse.
func TestEncodeEnds(t *testing.T) {
	for _, txg := range []int{1, 2, 7, 8, 63, 64, 1 << 40, math.MaxInt} {
		for _, n := range []int{0, 1, math.MaxInt} {
			for _, size := range []int{1, 64, 1024} {
				u := label.Uber{Txg: txg, Root: api.Ptr{Addr: n, Size: size, Birth: n, Sum: sum}}
				if v, e := label.Decode(encoded(t, u)); v != u || e != api.OK {
					t.Error(u, v, e)
				}
			}
		}
	}
}

// P8.1: what is no record.
func TestEncodeForm(t *testing.T) {
	good := ptr(1)
	for _, u := range []label.Uber{
		{}, {Txg: 0, Root: good}, {Txg: -1, Root: good}, {Txg: math.MinInt, Root: good}, {Txg: 1},
		{1, api.Ptr{Addr: -1, Size: 1, Sum: sum}}, {1, api.Ptr{Birth: -1, Size: 1, Sum: sum}}, {1, api.Ptr{Sum: sum}},
		{1, api.Ptr{Size: -1, Sum: sum}}, {1, api.Ptr{Size: 1025, Sum: sum}}, {1, api.Ptr{Size: 1}},
		{1, api.Ptr{Size: 1, Sum: sum[1:]}}, {1, api.Ptr{Size: 1, Sum: sum + "s"}},
	} {
		if b, e := label.Encode(u); len(b) != 0 || e != api.ErrForm {
			t.Error(u, b, e)
		}
		r := build(t, 5, 9)
		noWrite(t, r, u, api.ErrForm)
		off(r)
		noWrite(t, r, u, api.ErrForm)
		for drive := range 5 {
			r.Lose(drive)
		}
		noWrite(t, r, u, api.ErrForm)
		noWrite(t, build(t, 5, 8), u, api.ErrArg)
	}
}

// P8.1: sectors of items that are no record's.
func TestDecodeItems(t *testing.T) {
	root, _ := pack.Ptr(ptr(1))
	mark, txg, text := api.Item{Kind: 1, N: 77}, api.Item{Kind: 1, N: 9}, api.Item{Kind: 2, S: root}
	num := func(n int) api.Item { return api.Item{Kind: 1, N: n} }
	word := func(s string) api.Item { return api.Item{Kind: 2, S: s} }
	for _, l := range [][]api.Item{
		nil, {mark}, {mark, txg}, {mark, txg, text, num(0)}, {mark, txg, text, word("")}, {mark, mark, txg, text},
		{num(76), txg, text}, {num(-77), txg, text}, {num(0), txg, text}, {word("M"), txg, text}, {word(""), txg, text},
		{mark, num(0), text}, {mark, num(-1), text}, {mark, num(math.MinInt), text}, {mark, word(""), text}, {mark, word("9"), text},
		{mark, txg, num(1)}, {mark, txg, word("")}, {mark, txg, word(root[1:])}, {mark, txg, word(root + "\x01\x00")},
		{mark, text, txg}, {txg, mark, text}, {text, txg, mark}, {num(55), txg, num(0), num(1), word("x")},
		{mark, txg, word("\x01\x02\x01\x00\x01\x02\x02\x20" + sum)}, // a pointer of size 0
	} {
		b, e := pack.Sector(l)
		if e != api.OK {
			t.Fatal(l, e)
		}
		if u, e := label.Decode(b); u != (label.Uber{}) || e != api.ErrForm {
			t.Error(l, u, e)
		}
		r := build(t, 5, 9)
		for at := range 9 {
			r.Write(0, at, b)
		}
		slots(t, r, 0, -1, -1, -1, -1, -1, -1, -1, -1)
		lacks(t, r, api.ErrMiss)
	}
	b, _ := pack.Sector([]api.Item{mark, txg, text})
	if u, e := label.Decode(b); u != uber(9, 1) || e != api.OK {
		t.Error(u, e)
	}
}

// P8.1, P8.3: bytes that are no sector's, and those of a sector of which one is another one.
func TestDecodeBytes(t *testing.T) {
	good := encoded(t, uber(9, 1))
	for _, b := range [][]byte{
		nil, {}, make([]byte, 127), make([]byte, 128), make([]byte, 129), bytes.Repeat([]byte{255}, 128), good[:127], append(slices.Clone(good), 0),
	} {
		if u, e := label.Decode(b); u != (label.Uber{}) || e != api.ErrForm {
			t.Error(b, u, e)
		}
	}
	for i := range good {
		for _, x := range []byte{1, 2, 128, 255} {
			b := slices.Clone(good)
			b[i] ^= x
			if u, e := label.Decode(b); u != (label.Uber{}) || e != api.ErrForm {
				t.Error(i, x, u, e)
			}
		}
	}
}

// P8.1: the slots that transactions take, on all drives and nowhere else.
func TestWriteSlots(t *testing.T) {
	for _, drives := range []int{1, 5, 16} {
		r := build(t, drives, 10)
		must := []int{-1, -1, -1, -1, -1, -1, -1, -1}
		for txg := 1; txg <= 20; txg++ {
			writes(t, r, uber(txg, txg), drives)
			must[txg%8] = txg
			if r.Pending() != txg*drives {
				t.Error("writes:", r.Pending()) // and no flush
			}
			for drive := range drives {
				slots(t, r, drive, must...)
				for at := 8; at < 10; at++ {
					if b, _ := r.Read(drive, at); !bytes.Equal(b, make([]byte, 128)) {
						t.Error("a sector behind the label changed")
					}
				}
			}
			newest(t, r, uber(txg, txg))
		}
		writes(t, r, uber(math.MaxInt, 3), drives)
		must[7] = math.MaxInt
		slots(t, r, 0, must...)
		newest(t, r, uber(math.MaxInt, 3))
	}
}

// P8.1: a Write leaves lost drives out; of all that are lost it is ErrIO, the power off or not.
func TestWriteGone(t *testing.T) {
	r := build(t, 5, 9)
	for n, drive := range []int{3, 0, 4, 1} {
		r.Lose(drive)
		writes(t, r, uber(n+1, 1), 4-n)
		noSlots(t, r, drive, api.ErrGone)
	}
	slots(t, r, 2, -1, 1, 2, 3, 4, -1, -1, -1)
	r.Arm(7) // a write to a lost drive isn't one
	writes(t, r, uber(5, 1), 1)
	r.Lose(2)
	noWrite(t, r, uber(6, 1), api.ErrIO)
	lacks(t, r, api.ErrMiss)
	off(r)
	noWrite(t, r, uber(6, 1), api.ErrIO)
	lacks(t, r, api.ErrMiss)
	noSlots(t, r, 2, api.ErrGone)
	r.Replace(4)
	noWrite(t, r, uber(6, 1), api.ErrDown)
	lacks(t, r, api.ErrDown)
	noSlots(t, r, 4, api.ErrDown)
	r.Crash(nil)
	lacks(t, r, api.ErrMiss)
	slots(t, r, 4, -1, -1, -1, -1, -1, -1, -1, -1)
}

// P8.1: without power; a count of 0 though some drives were written to; from drive 0 on.
func TestWriteDown(t *testing.T) {
	for n := range 6 {
		for _, lost := range []int{-1, 0, 2} {
			r := build(t, 5, 9)
			r.Lose(lost)
			r.Arm(n)
			there := r.Drives()
			if lost >= 0 {
				there--
			}
			if n >= there {
				writes(t, r, uber(1, 1), there)
			} else {
				noWrite(t, r, uber(1, 1), api.ErrDown)
				lacks(t, r, api.ErrDown)
				noSlots(t, r, 4, api.ErrDown)
			}
			r.Crash(slices.Repeat([]int{1}, 5))
			k := 0
			for drive := range 5 {
				if drive == lost {
					continue
				}
				must := -1
				if k < n {
					must = 1
				}
				k++
				slots(t, r, drive, -1, must, -1, -1, -1, -1, -1, -1)
			}
		}
	}
}

// P8.1: racks that are none, or have no room; drives that there aren't.
func TestArguments(t *testing.T) {
	check := func(r *rack.Rack) {
		noWrite(t, r, uber(1, 1), api.ErrArg)
		noWrite(t, r, label.Uber{}, api.ErrArg)
		lacks(t, r, api.ErrArg)
		for _, drive := range []int{math.MinInt, -1, 0, 1, math.MaxInt} {
			noSlots(t, r, drive, api.ErrArg)
		}
	}
	check(nil)
	check(&rack.Rack{})
	for _, sectors := range []int{1, 7, 8} {
		r := build(t, 5, sectors)
		check(r)
		off(r)
		check(r)
		for drive := range 5 {
			r.Lose(drive)
		}
		check(r)
	}
	for _, sectors := range []int{9, 2000} {
		r := build(t, 3, sectors)
		wrong := func() {
			for _, drive := range []int{math.MinInt, -1, 3, 16, math.MaxInt} {
				noSlots(t, r, drive, api.ErrArg)
			}
		}
		writes(t, r, uber(1, 1), 3)
		wrong()
		off(r)
		wrong()
		for drive := range 3 {
			r.Lose(drive)
		}
		wrong()
	}
}

// P8.1: what is handed in isn't changed; a list that is answered is new memory.
func TestMemory(t *testing.T) {
	room := append(encoded(t, uber(9, 1)), 1, 2, 3)
	was := slices.Clone(room)
	u, e := label.Decode(room[:128])
	if u != uber(9, 1) || e != api.OK || !bytes.Equal(room, was) {
		t.Error(u, e)
	}
	clear(room)
	if u != uber(9, 1) {
		t.Error(u)
	}
	r := build(t, 5, 9)
	writes(t, r, u, 5)
	l, _ := label.Slots(r, 0)
	m, _ := label.Slots(r, 0)
	clear(l[:cap(l)])
	if !slices.Equal(m, []int{-1, 9, -1, -1, -1, -1, -1, -1}) {
		t.Error(m)
	}
	b := encoded(t, u)
	c := encoded(t, u)
	clear(b)
	if !bytes.Equal(c, was[:128]) {
		t.Error(c)
	}
}
