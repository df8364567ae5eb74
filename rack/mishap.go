package rack

import (
	"maps"

	"hoard/api"
)

// Arm: the power goes off behind so many writes and flushes.
func (r *Rack) Arm(n int) {
	if r == nil {
		return
	}
	r.armed = n >= 0
	r.left = max(n, 0)
}

// powered: is there power for one write or flush more? An armed rack counts it.
func (r *Rack) powered() bool {
	if r.off || !r.armed {
		return !r.off
	}
	if r.left == 0 {
		r.off = true
		return false
	}
	r.left--
	return true
}

// Crash: the power goes off, and comes back; what waited is lost or kept.
func (r *Rack) Crash(picks []int) {
	if r == nil {
		return
	}
	for i, w := range r.waits {
		if i < len(picks) && picks[i]%2 != 0 {
			r.lasting[w.place] = w.sector
		}
	}
	r.await(nil)
	r.off, r.armed, r.left = false, false, 0
}

// Lose: a drive is lost.
func (r *Rack) Lose(drive int) api.Errno {
	if !r.has(drive) {
		return api.ErrArg
	}
	r.wipe(drive)
	r.gone[drive] = true
	return api.OK
}

// Replace: a new drive in the place of one.
func (r *Rack) Replace(drive int) api.Errno {
	if !r.has(drive) {
		return api.ErrArg
	}
	r.wipe(drive)
	r.gone[drive] = false
	return api.OK
}

// wipe forgets all that a drive holds, and what waits for it. (What a lost drive held comes never back.)
func (r *Rack) wipe(drive int) {
	maps.DeleteFunc(r.lasting, func(p place, _ sector) bool { return p.drive == drive })
	var others []waiting
	for _, w := range r.waits {
		if w.drive != drive {
			others = append(others, w)
		}
	}
	r.await(others)
}

// Rot: a sector's byte is another one, silently.
func (r *Rack) Rot(drive, at, n int) api.Errno {
	if n < 0 {
		return api.ErrArg
	}
	p := place{drive, at}
	if e := r.reach(p); e != api.OK {
		return e
	}
	s := r.holds(p)
	s.bytes[n%api.Sector] ^= turn(n)
	if i, ok := r.newest[p]; ok {
		r.waits[i].sector = s
	} else {
		r.lasting[p] = s
	}
	return api.OK
}

// turn is what a byte is put together with: never 0, so that a sector that rots always changes.
func turn(n int) byte {
	return byte(1 + n/api.Sector%255)
}
