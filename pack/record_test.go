package pack_test

import (
	"bytes"
	"crypto/sha256"
	"math"
	"slices"
	"strings"
	"testing"

	"hoard/api"
	"hoard/pack"
)

// sum is some sum of 32 bytes.
var sum = strings.Repeat("\x00\xffab", 8)

// pointers are some that are in form.
func pointers() []api.Ptr {
	r := []api.Ptr{}
	for _, a := range []int{0, 1, 63, 64, 39999, math.MaxInt} {
		for _, n := range []int{1, 2, 127, 128, 1023, api.MaxBlock} {
			for _, birth := range []int{0, 1, 1 << 40, math.MaxInt} {
				r = append(r, api.Ptr{Addr: a, Size: n, Birth: birth, Sum: sum})
			}
		}
	}
	return r
}

// items is the list that tells a pointer.
func items(p api.Ptr) []api.Item {
	return []api.Item{num(p.Addr), num(p.Size), num(p.Birth), text(p.Sum)}
}

// wrong are some that aren't in form.
func wrong() []api.Ptr {
	good := api.Ptr{Addr: 5, Size: 9, Birth: 2, Sum: sum}
	r := []api.Ptr{{}}
	change := func(f func(p *api.Ptr)) {
		p := good
		f(&p)
		r = append(r, p)
	}
	for _, n := range []int{-1, -2, math.MinInt} {
		change(func(p *api.Ptr) { p.Addr = n })
		change(func(p *api.Ptr) { p.Birth = n })
		change(func(p *api.Ptr) { p.Size = n })
	}
	for _, n := range []int{0, api.MaxBlock + 1, math.MaxInt} {
		change(func(p *api.Ptr) { p.Size = n })
	}
	for _, n := range []int{0, 1, 31, 33, 64, api.MaxText, api.MaxText + 1} {
		change(func(p *api.Ptr) { p.Sum = long(n) })
	}
	return r
}

// P5.2: pointers become the bytes of their list, and are found in them again.
func TestPtr(t *testing.T) {
	for _, p := range pointers() {
		s, e := pack.Ptr(p)
		if e != api.OK || s != string(spell(items(p))) {
			t.Errorf("Ptr(%v) = %q, %v", p, s, e)
		}
		if q, e := pack.Unptr(s); e != api.OK || q != p {
			t.Errorf("Unptr(%q) = %v, %v", s, q, e)
		}
	}
}

// P5.2: what is no pointer is refused, by both.
func TestPtrRefuses(t *testing.T) {
	for _, p := range wrong() {
		if s, e := pack.Ptr(p); e != api.ErrForm || s != "" {
			t.Errorf("Ptr(%v) = %q, %v", p, s, e)
		}
		unpointed(t, string(spell(items(p))))
	}
}

// unpointed: Unptr answers ErrForm, and nothing else.
func unpointed(t *testing.T, s string) {
	t.Helper()
	if p, e := pack.Unptr(s); e != api.ErrForm || p != (api.Ptr{}) {
		t.Errorf("Unptr(%.80q) = %v, %v", s, p, e)
	}
}

// P5.2: texts that no pointer makes: fewer or more items, items of the other kind, bytes of no list.
func TestUnptrRefuses(t *testing.T) {
	l := items(api.Ptr{Addr: 5, Size: 9, Birth: 2, Sum: sum})
	for n := range l {
		unpointed(t, string(spell(l[:n])))
		unpointed(t, string(spell(l[n:][1:])))
	}
	unpointed(t, string(spell(append(slices.Clip(l), num(0)))))
	unpointed(t, string(spell(append(slices.Clip(l), l...))))
	for i := range l {
		for _, x := range []api.Item{num(0), num(9), text(""), text("\x09"), text(sum)} {
			if x.Kind != l[i].Kind {
				other := slices.Clone(l)
				other[i] = x
				unpointed(t, string(spell(other)))
			}
		}
	}
	unpointed(t, "")
	s := string(spell(l))
	unpointed(t, s+"\x00")
	unpointed(t, s[:len(s)-1])
	unpointed(t, "\x01\x8a\x00"+s[2:])
}

// sector is what Sector must answer.
func sector(l []api.Item) []byte {
	b := spell(l)
	s := sha256.Sum256(b)
	r := []byte{byte(len(b) + 32)}
	r = append(r, b...)
	r = append(r, s[:]...)
	return append(r, make([]byte, 128-len(r))...)
}

// P5.3: lists of all lengths that have room lie in sectors, and are found there again.
func TestSector(t *testing.T) {
	for n := range 94 {
		for _, l := range [][]api.Item{{text(long(n))}, slices.Repeat([]api.Item{num(n - 50)}, n/2)} {
			b, e := pack.Sector(l)
			if must := sector(l); e != api.OK || !bytes.Equal(b, must) {
				t.Fatalf("Sector(%v) = %v, %v, not %v", l, b, e, must)
			}
			if back, e := pack.Unsector(b); e != api.OK || !slices.Equal(back, l) {
				t.Fatalf("Unsector(%v) = %v, %v, not %v", b, back, e, l)
			}
		}
	}
}

// P5.3: the chapter's second example.
func TestSectorExample(t *testing.T) {
	unsectored(t, "128 noughts", make([]byte, 128))
	s := sha256.Sum256(nil)
	for _, l := range [][]api.Item{nil, {}} {
		b, e := pack.Sector(l)
		if e != api.OK || len(b) != 128 || b[0] != 32 || !bytes.Equal(b[1:33], s[:]) || !bytes.Equal(b[33:], make([]byte, 95)) {
			t.Error(b, e)
		}
		if l, e := pack.Unsector(b); e != api.OK || len(l) != 0 {
			t.Error(l, e)
		}
	}
	if b, e := pack.Sector([]api.Item{text(long(93))}); e != api.OK || len(b) != 128 || b[0] != 127 {
		t.Error(b, e)
	}
	unpacked(t, "a text of 94 bytes", []api.Item{text(long(94))}, api.ErrBig)
}

// unpacked: Sector answers that error, and nothing else.
func unpacked(t *testing.T, what string, l []api.Item, must api.Errno) {
	t.Helper()
	if b, e := pack.Sector(l); e != must || len(b) != 0 {
		t.Errorf("Sector of %s: %v, %v, not %v", what, b, e, must)
	}
}

// P5.3: what has no room, and Encode's errors ahead of that.
func TestSectorRefuses(t *testing.T) {
	unpacked(t, "48 numbers", slices.Repeat([]api.Item{num(1)}, 48), api.ErrBig)
	for _, n := range []int{95, 96, 128, 222, 223, 224, 256, 350, api.MaxText} {
		unpacked(t, "too long a text", []api.Item{text(long(n))}, api.ErrBig)
		unpacked(t, "too long a text and a fault", []api.Item{text(long(n)), {Kind: 3}}, api.ErrForm)
	}
	unpacked(t, "a text that no item has", []api.Item{text(long(api.MaxText + 1)), {Kind: 3}}, api.ErrBig)
	unpacked(t, "a fault", []api.Item{{Kind: 1, S: "x"}}, api.ErrForm)
	unpacked(t, "many faults", make([]api.Item, 500), api.ErrForm)
	unpacked(t, "too many", make([]api.Item, api.MaxItems+1), api.ErrBig)
}

// unsectored: Unsector answers ErrForm, and nothing else.
func unsectored(t *testing.T, what string, b []byte) {
	t.Helper()
	if l, e := pack.Unsector(b); e != api.ErrForm || len(l) != 0 {
		t.Errorf("Unsector of %s: %v, %v", what, l, e)
	}
}

// P5.3: no change of a byte leaves it a sector, wherever it is.
func TestUnsectorChanged(t *testing.T) {
	for _, l := range [][]api.Item{nil, {num(5), text("abc")}, {text(long(93))}} {
		good := sector(l)
		for i := range good {
			for _, x := range []byte{1, 2, 128, 255} {
				b := bytes.Clone(good)
				b[i] ^= x
				unsectored(t, "a changed one", b)
			}
		}
		for n := range good {
			unsectored(t, "a shorter one", good[:n])
		}
		unsectored(t, "a longer one", append(bytes.Clone(good), 0))
	}
}

// sealed is a sector that holds bytes with their sum, be they a list's or not.
func sealed(b []byte) []byte {
	s := sha256.Sum256(b)
	r := append([]byte{byte(len(b) + 32)}, b...)
	r = append(r, s[:]...)
	return append(r, make([]byte, max(0, 128-len(r)))...)
}

// P5.3: bytes that are sealed well, but that no list makes.
func TestUnsectorOthers(t *testing.T) {
	for _, b := range [][]byte{{0}, {1}, {1, 128, 0}, {3, 1}, {2, 5, 'a'}, {1, 2, 7}} {
		unsectored(t, "sealed bytes of no list", sealed(b))
	}
	if l, e := pack.Unsector(sealed([]byte{1, 2})); e != api.OK || !slices.Equal(l, []api.Item{num(1)}) {
		t.Error(l, e)
	}
	for n := 95; n < 200; n++ {
		unsectored(t, "a seal beyond the sector", sealed(spell([]api.Item{text(long(n))}))[:128])
	}
	unsectored(t, "nothing", nil)
	unsectored(t, "nothing", []byte{})
	for n := range 256 {
		b := make([]byte, 128)
		b[0] = byte(n)
		unsectored(t, "a count and noughts", b)
	}
}

// P5.4: records don't change what is handed in, and are new memory.
func TestRecordMemory(t *testing.T) {
	room := []api.Item{num(3), text("abc"), num(9)}
	kept := slices.Clone(room)
	b, e := pack.Sector(room[:2])
	if e != api.OK || !slices.Equal(room, kept) {
		t.Fatal(room, e)
	}
	again, _ := pack.Sector(room[:2])
	clear(again[:cap(again)])
	if !bytes.Equal(b, sector(kept[:2])) {
		t.Error("two answers of Sector share")
	}

	in := append(b, 7, 8, 9)
	was := bytes.Clone(in)
	l, e := pack.Unsector(in[:128])
	if e != api.OK || !bytes.Equal(in, was) {
		t.Fatal(in, e)
	}
	clear(in)
	if !slices.Equal(l, kept[:2]) {
		t.Error("Unsector's answer shares", l)
	}
}
