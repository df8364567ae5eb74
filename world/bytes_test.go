package world_test

import (
	"math"
	"math/rand"
	"testing"

	"hoard/api"
)

// P14.1: Read's places and counts, at the ends of a file and of their type.
func TestRead(t *testing.T) {
	b := lay(t)
	ino := b.makes(t, "/f")
	for _, size := range []int{0, 1, 255, 256, 257, 512, 1000, 4095, 4096} {
		s := long(size)
		all(t, b.Truncate(ino, 0), b.Write(ino, 0, s))
		b.reads(t, ino, s)
		for _, off := range []int{0, 1, 254, 255, 256, 257, 511, size - 1, size, size + 1, 4095, 4096, 4097, math.MaxInt} {
			for _, n := range []int{0, 1, 2, 255, 256, 257, size, size + 1, 4096, 4097, math.MaxInt} {
				if off < 0 {
					continue
				}
				from := min(off, size)
				must := s[from : from+min(n, size-from)]
				if got, e := b.Read(ino, off, n); got != must || e != api.OK {
					t.Fatalf("%d of %d from %d: %q, %d", n, size, off, got, e)
				}
			}
		}
	}
}

// P14.1: the errors of Read, Write and Truncate, in their order.
func TestBytesErrors(t *testing.T) {
	b := lay(t)
	b.makes(t, "/f", "/d/", "/g")
	all(t, b.Write(2, 0, "abc"), b.Unlink("/g"))
	for _, ino := range []int{math.MinInt, -1, 0, 1, 2, 3, 4, 5, math.MaxInt} {
		kind := api.ErrMiss
		switch ino {
		case 1, 3:
			kind = api.ErrDir
		case 2:
			kind = api.OK
		}
		for _, n := range []int{math.MinInt, -1} {
			b.noRead(t, ino, n, 0, api.ErrArg)
			b.noRead(t, ino, 0, n, api.ErrArg)
			b.noRead(t, ino, n, n, api.ErrArg)
			b.noWrite(t, ino, n, "", api.ErrArg)
			b.noWrite(t, ino, n, long(4097), api.ErrArg)
			b.noTruncate(t, ino, n, api.ErrArg)
		}
		for _, n := range []int{4097, math.MaxInt - 1, math.MaxInt} {
			b.noWrite(t, ino, n, "", api.ErrBig)
			b.noWrite(t, ino, n, "a", api.ErrBig)
			b.noTruncate(t, ino, n, api.ErrBig)
		}
		b.noWrite(t, ino, 0, long(4097), api.ErrBig)
		b.noWrite(t, ino, 1, long(4096), api.ErrBig)
		b.noWrite(t, ino, 4095, "ab", api.ErrBig)
		b.noWrite(t, ino, 4096, "a", api.ErrBig)
		b.noRead(t, ino, 3, 1, kind)
		for _, off := range []int{0, 3, 100, 4096} {
			b.noWrite(t, ino, off, "", kind)
		}
		if kind != api.OK {
			b.noRead(t, ino, 0, math.MaxInt, kind)
			b.noWrite(t, ino, 0, "a", kind)
			b.noWrite(t, ino, 0, long(4096), kind)
			b.noTruncate(t, ino, 0, kind)
			b.noTruncate(t, ino, 4096, kind)
		}
	}
	b.reads(t, 2, "abc")
}

// P14.1: bytes at the end of what a file may hold; those that were never written are noughts.
func TestEnd(t *testing.T) {
	b := lay(t)
	ino := b.makes(t, "/f")
	all(t, b.Write(ino, 4095, "z"))
	b.reads(t, ino, noughts(4095)+"z")
	all(t, b.Write(ino, 300, "ab"), b.Truncate(ino, 301))
	b.reads(t, ino, noughts(300)+"a")
	all(t, b.Truncate(ino, 4096))
	b.reads(t, ino, noughts(300)+"a"+noughts(3795))
	all(t, b.Write(ino, 0, long(4096)))
	b.reads(t, ino, long(4096))
	all(t, b.Truncate(ino, 256), b.Truncate(ino, 600))
	b.reads(t, ino, long(256)+noughts(344))
	all(t, b.Write(ino, 256, noughts(300)))
	b.reads(t, ino, long(256)+noughts(344))
	all(t, b.Write(ino, 0, noughts(4096)))
	b.reads(t, ino, noughts(4096))
	all(t, b.Truncate(ino, 0), b.Write(ino, 700, noughts(3)))
	b.reads(t, ino, noughts(703))
}

// P14.1: each end of a file, and each place of a few bytes around the ends of chunks.
func TestEdges(t *testing.T) {
	b := lay(t)
	ino := b.makes(t, "/f")
	edges := []int{0, 1, 2, 255, 256, 257, 511, 512, 513, 3839, 3840, 3841, 4094, 4095, 4096}
	for _, size := range edges {
		for _, to := range edges {
			all(t, b.Truncate(ino, 0), b.Write(ino, 0, long(size)), b.Truncate(ino, to))
			b.reads(t, ino, (long(size) + noughts(4096))[:max(size, to)][:to])
			for _, n := range []int{1, 2, 256, 257} {
				if to+n > 4096 {
					continue
				}
				all(t, b.Truncate(ino, 0), b.Write(ino, 0, long(size)), b.Write(ino, to, long(n)))
				must := []byte(long(size) + noughts(4096))[:max(size, to+n)]
				copy(must[to:], long(n))
				b.reads(t, ino, string(must))
			}
		}
	}
}

// P14.1, P14.2: files as plain bytes, whatever is written and cut; the world that is opened anew has them too.
func TestBytesModel(t *testing.T) {
	rnd := rand.New(rand.NewSource(14))
	b := lay(t)
	b.makes(t, "/f", "/g")
	var files [2][]byte
	for i := range 3000 {
		k := rnd.Intn(2)
		off, n := rnd.Intn(4200), rnd.Intn(anyOf(rnd, []int{2, 300, 4200}))
		switch rnd.Intn(3) {
		case 0:
			s := make([]byte, n)
			if rnd.Intn(3) > 0 {
				rnd.Read(s)
			}
			if off+n > 4096 {
				b.noWrite(t, k+2, off, string(s), api.ErrBig)
				continue
			}
			all(t, b.Write(k+2, off, string(s)))
			if n > 0 {
				files[k] = append(files[k], make([]byte, max(0, off+n-len(files[k])))...)
				copy(files[k][off:], s)
			}
		case 1:
			if off > 4096 {
				b.noTruncate(t, k+2, off, api.ErrBig)
				continue
			}
			all(t, b.Truncate(k+2, off))
			files[k] = append(files[k], make([]byte, 4096)...)[:off:off]
		default:
			from := min(off, len(files[k]))
			must := string(files[k][from:min(len(files[k]), from+n)])
			if s, e := b.Read(k+2, off, n); s != must || e != api.OK {
				t.Fatalf("%q, %d, not %q", s, e, must)
			}
		}
		b.reads(t, k+2, string(files[k]))
		switch i % 40 {
		case 0:
			b = b.on(t, b.x)
		case 10:
			b = b.on(t, b.x.Copy())
		case 20:
			root, gone, e := b.x.Sync()
			want(t, "Sync", e, api.OK)
			for _, p := range gone {
				want(t, "Give", b.s.Give(p), api.OK)
			}
			b.s.Settle()
			b = b.open(t, root)
		}
	}
}
