package world

import (
	"strings"

	"hoard/api"
)

// maxSize: a file has at most so many bytes.
const maxSize = api.MaxChunks * api.Chunk

// Read: bytes of a file.
func (w *World) Read(ino, off, n int) (string, api.Errno) {
	if w.none() || off < 0 || n < 0 {
		return "", api.ErrArg
	}
	_, b, e := w.load(ino)
	if e != api.OK {
		return "", e
	}
	b = b[min(off, len(b)):]
	return string(b[:min(n, len(b))]), api.OK
}

// Write: bytes into a file.
func (w *World) Write(ino, off int, b string) api.Errno {
	if w.none() || off < 0 {
		return api.ErrArg
	}
	if off > maxSize-len(b) {
		return api.ErrBig
	}
	x, was, e := w.load(ino)
	if e != api.OK || b == "" {
		return e
	}
	is := make([]byte, max(len(was), off+len(b)))
	copy(is, was)
	copy(is[off:], b)
	return w.save(x, was, is)
}

// Truncate: a file's size.
func (w *World) Truncate(ino, size int) api.Errno {
	if w.none() || size < 0 {
		return api.ErrArg
	}
	if size > maxSize {
		return api.ErrBig
	}
	x, was, e := w.load(ino)
	if e != api.OK {
		return e
	}
	is := make([]byte, size)
	copy(is, was)
	return w.save(x, was, is)
}

// load is a file, and its bytes.
func (w *World) load(ino int) (Info, []byte, api.Errno) {
	x, e := w.known(ino)
	if e != api.OK {
		return Info{}, nil, e
	}
	if x.Kind == directory {
		return Info{}, nil, api.ErrDir
	}
	l, e := content(w.tree, ino)
	if e != api.OK {
		return Info{}, nil, e
	}
	b := make([]byte, x.Size)
	for _, p := range l {
		if !isChunk(x, p.Key, p.Val) {
			return Info{}, nil, api.ErrForm
		}
		copy(b[int(p.Key[0])*api.Chunk:], p.Val)
	}
	return x, b, api.OK
}

// save makes a file's bytes others. What stays as it was isn't put anew.
func (w *World) save(x Info, was, is []byte) api.Errno {
	return w.change(func(d *draft) {
		if len(was) != len(is) {
			x.Size = len(is)
			d.note(x)
		}
		for k := range api.MaxChunks {
			switch old, s := chunk(was, k), chunk(is, k); {
			case s == old:
			case s == "":
				d.drop(chunkKey(x.Ino, k))
			default:
				d.put(chunkKey(x.Ino, k), s)
			}
		}
	})
}

// chunk is one of the chunks of bytes, as it stands in the tree.
func chunk(b []byte, k int) string {
	from := min(k*api.Chunk, len(b))
	to := min(from+api.Chunk, len(b))
	return strings.TrimRight(string(b[from:to]), "\x00")
}

// isChunk: may this stand in the tree as a chunk of a file?
func isChunk(x Info, key, s string) bool {
	if len(key) != 1 || len(s) < 1 || len(s) > api.Chunk {
		return false
	}
	return s[len(s)-1] != 0 && int(key[0])*api.Chunk+len(s) <= x.Size
}
