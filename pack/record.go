package pack

import (
	"hoard/api"
	"hoard/sha"
)

// sumSize: a sum has so many bytes.
const sumSize = 32

// pointed: is it a pointer?
func pointed(p api.Ptr) bool {
	return p.Addr >= 0 && p.Size >= 1 && p.Size <= api.MaxBlock && p.Birth >= 0 && len(p.Sum) == sumSize
}

// Ptr: a pointer as a text.
func Ptr(p api.Ptr) (string, api.Errno) {
	if !pointed(p) {
		return "", api.ErrForm
	}
	b, e := Encode([]api.Item{
		{Kind: number, N: p.Addr},
		{Kind: number, N: p.Size},
		{Kind: number, N: p.Birth},
		{Kind: text, S: p.Sum},
	})
	return string(b), e
}

// Unptr: the pointer of a text.
func Unptr(s string) (api.Ptr, api.Errno) {
	l, e := Decode([]byte(s))
	if e != api.OK || len(l) != 4 {
		return api.Ptr{}, api.ErrForm
	}
	p := api.Ptr{Addr: l[0].N, Size: l[1].N, Birth: l[2].N, Sum: l[3].S}
	// An item of the other kind leaves its field empty: it would be taken for a 0.
	if l[0].Kind != number || l[2].Kind != number || !pointed(p) {
		return api.Ptr{}, api.ErrForm
	}
	return p, api.OK
}

// Sector: items, sealed, in a sector.
func Sector(l []api.Item) ([]byte, api.Errno) {
	b, e := Encode(l)
	if e != api.OK {
		return nil, e
	}
	n := len(b) + sumSize
	if 1+n > api.Sector {
		return nil, api.ErrBig
	}
	r := make([]byte, api.Sector)
	r[0] = byte(n)
	copy(r[1:], sha.Seal(b))
	return r, api.OK
}

// Unsector: the items of a sector.
func Unsector(b []byte) ([]api.Item, api.Errno) {
	if len(b) != api.Sector || 1+int(b[0]) > len(b) {
		return nil, api.ErrForm
	}
	n := 1 + int(b[0])
	for _, x := range b[n:] {
		if x != 0 {
			return nil, api.ErrForm
		}
	}
	body, e := sha.Open(b[1:n])
	if e != api.OK {
		return nil, e
	}
	return Decode(body)
}
