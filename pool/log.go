package pool

import (
	"bytes"
	"slices"

	"hoard/api"
	"hoard/intent"
	"hoard/rack"
)

// Fsync: what was done up to now lasts.
func (p *Pool) Fsync() api.Errno {
	if e := p.ready(); e != api.OK {
		return e
	}
	need := 0
	for _, s := range p.deeds[p.logged:] {
		need += intent.Need(s)
	}
	if need > p.log.Room() {
		return p.change(nothing)
	}
	e := p.enter()
	p.down = p.down || e == api.ErrDown
	return e
}

// enter appends to the log what isn't in it, and has it last.
func (p *Pool) enter() api.Errno {
	for _, s := range p.deeds[p.logged:] {
		if e := p.log.Append(s); e != api.OK {
			return e
		}
		p.logged++
	}
	return p.rack.Flush()
}

// Sync: a transaction: what was done up to now lasts.
func (p *Pool) Sync() api.Errno {
	if e := p.ready(); e != api.OK {
		return e
	}
	return p.change(nothing)
}

// sectors goes through the log's sectors on the drives that aren't gone, till a look at one ends it.
func (p *Pool) sectors(look func(drive, at int, b []byte) (end bool, e api.Errno)) (bool, api.Errno) {
	for drive := range p.rack.Drives() {
		for at := labelSize; at < labelSize+p.logs && !p.rack.Gone(drive); at++ {
			b, e := p.rack.Read(drive, at)
			if e != api.OK {
				return false, e
			}
			if end, e := look(drive, at, b); end || e != api.OK {
				return end, e
			}
		}
	}
	return false, api.OK
}

// clearLog leaves nothing in the log's sectors: an older pool's pieces may be of a transaction that a new one comes to.
func (p *Pool) clearLog() api.Errno {
	empty := make([]byte, api.Sector)
	_, e := p.sectors(func(drive, at int, b []byte) (bool, api.Errno) {
		if bytes.Equal(b, empty) {
			return false, api.OK
		}
		return false, p.rack.Write(drive, at, empty)
	})
	return e
}

// strays: does some sector of the log hold a piece behind a transaction, wherever it stands, and though others that it needs are missing?
func (p *Pool) strays(base int) (bool, api.Errno) {
	head, e := headOf(base)
	if e != api.OK {
		return false, e
	}
	return p.sectors(func(_, _ int, b []byte) (bool, api.Errno) {
		if !bytes.HasPrefix(b[1:], head) {
			return false, api.OK
		}
		return isPiece(b, base)
	})
}

// headOf is how all pieces behind a transaction begin, behind their first byte: what two of them have in common that differ in their numbers.
func headOf(base int) ([]byte, api.Errno) {
	r, e := filled(1, 2, base, "")
	if e != api.OK {
		return nil, e
	}
	a, _ := r.Read(0, 0)
	b, _ := r.Read(0, 1)
	n := 1
	for n < len(a) && a[n] == b[n] {
		n++
	}
	return a[1:n], api.OK
}

// filled is a rack whose drives have nothing but a log, full of intents of one text, each a piece.
func filled(drives, logs, base int, text string) (*rack.Rack, api.Errno) {
	r, e := rack.New(drives, logs)
	if e != api.OK {
		return nil, e
	}
	l, _, e := intent.Open(r, 0, logs, base)
	for e == api.OK && l.Room() > 0 {
		e = l.Append(text)
	}
	return r, e
}

// isPiece: does a sector hold a piece behind a transaction, of whatever number? Layer 13 is asked: what stands everywhere on the first drive of a full log is told in the place of that one of the second drive's pieces that has its number.
func isPiece(b []byte, base int) (bool, api.Errno) {
	for _, text := range []string{"0", "1"} {
		r, e := filled(2, mostLogs, base, text)
		if e != api.OK {
			return false, e
		}
		for at := range mostLogs {
			if e := r.Write(0, at, b); e != api.OK {
				return false, e
			}
		}
		_, l, e := intent.Open(r, 0, mostLogs, base)
		if e != api.OK {
			return false, e
		}
		if !slices.Equal(l, slices.Repeat([]string{text}, mostLogs)) {
			return true, api.OK
		}
	}
	return false, api.OK
}
