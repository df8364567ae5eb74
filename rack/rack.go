// Package rack is layer 1: drives that share one power: see shared/doc/01-rack.md.
package rack

import (
	"slices"

	"hoard/api"
)

// place is where a sector lies.
type place struct {
	drive, at int
}

// sector is what a sector holds.
type sector struct {
	bytes [api.Sector]byte
}

// waiting is a write that isn't flushed.
type waiting struct {
	place
	sector
}

// Rack is some drives.
type Rack struct {
	drives, sectors int
	lasting         map[place]sector // a sector that isn't in it holds noughts
	waits           []waiting        // in the order in which they were made
	newest          map[place]int    // the last of waits for a place, so that a Read needn't look through all
	gone            [api.MaxDrives]bool
	off             bool
	armed           bool
	left            int // of an armed rack: so many writes and flushes are carried out
}

// New: so many drives of so many sectors.
func New(drives, sectors int) (*Rack, api.Errno) {
	if drives < 1 || drives > api.MaxDrives || sectors < 1 || sectors > api.MaxSectors {
		return nil, api.ErrArg
	}
	r := &Rack{drives: drives, sectors: sectors, lasting: map[place]sector{}}
	r.await(nil)
	return r, api.OK
}

// await makes the list the writes that wait.
func (r *Rack) await(list []waiting) {
	r.waits = list
	r.newest = map[place]int{}
	for i, w := range list {
		r.newest[w.place] = i
	}
}

// has: is it one of the drives? A nil rack has none.
func (r *Rack) has(drive int) bool {
	return r != nil && drive >= 0 && drive < r.drives
}

// reach tells why a sector can't be reached, whatever the power is.
func (r *Rack) reach(p place) api.Errno {
	if !r.has(p.drive) || p.at < 0 || p.at >= r.sectors {
		return api.ErrArg
	}
	if r.gone[p.drive] {
		return api.ErrGone
	}
	return api.OK
}

// holds is what a sector holds, as last written.
func (r *Rack) holds(p place) sector {
	if i, ok := r.newest[p]; ok {
		return r.waits[i].sector
	}
	return r.lasting[p]
}

// Drives: how many there are.
func (r *Rack) Drives() int {
	if r == nil {
		return 0
	}
	return r.drives
}

// Sectors: how many each has.
func (r *Rack) Sectors() int {
	if r == nil {
		return 0
	}
	return r.sectors
}

// Gone: is a drive lost?
func (r *Rack) Gone(drive int) bool {
	return r.has(drive) && r.gone[drive]
}

// Read: a sector's bytes, as last written.
func (r *Rack) Read(drive, at int) ([]byte, api.Errno) {
	p := place{drive, at}
	if e := r.reach(p); e != api.OK {
		return nil, e
	}
	if r.off {
		return nil, api.ErrDown
	}
	s := r.holds(p)
	return slices.Clone(s.bytes[:]), api.OK
}

// Write: a sector's bytes; they last when they are flushed.
func (r *Rack) Write(drive, at int, b []byte) api.Errno {
	if len(b) != api.Sector {
		return api.ErrArg
	}
	w := waiting{place: place{drive, at}}
	if e := r.reach(w.place); e != api.OK {
		return e
	}
	if !r.powered() {
		return api.ErrDown
	}
	copy(w.bytes[:], b)
	r.newest[w.place] = len(r.waits)
	r.waits = append(r.waits, w)
	return api.OK
}

// Flush: all that was written, to all drives, lasts.
func (r *Rack) Flush() api.Errno {
	if r == nil {
		return api.ErrArg
	}
	if !r.powered() {
		return api.ErrDown
	}
	for _, w := range r.waits {
		r.lasting[w.place] = w.sector
	}
	r.await(nil)
	return api.OK
}

// Pending: how many writes wait.
func (r *Rack) Pending() int {
	if r == nil {
		return 0
	}
	return len(r.waits)
}
