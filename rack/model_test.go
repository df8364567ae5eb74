package rack_test

import (
	"math/rand"
	"testing"

	"hoard/api"
	"hoard/rack"
)

const (
	modelDrives  = 3
	modelSectors = 2
)

// note is one write in the model: what became of it stands beside it.
type note struct {
	drive, at int
	b         [api.Sector]byte
}

// model is a rack as plainly as the chapter says it: for each sector its bytes, and one list.
type model struct {
	lasting [modelDrives][modelSectors][api.Sector]byte
	waits   []note
	gone    [modelDrives]bool
	off     bool
	count   int // -1: not armed
}

// fault is the first error that applies to a sector.
func (m *model) fault(drive, at int, wrong, power bool) api.Errno {
	switch {
	case wrong || drive < 0 || drive >= modelDrives || at < 0 || at >= modelSectors:
		return api.ErrArg
	case m.gone[drive]:
		return api.ErrGone
	case power && m.off:
		return api.ErrDown
	}
	return api.OK
}

// bytes points to what a Read answers.
func (m *model) bytes(drive, at int) *[api.Sector]byte {
	b := &m.lasting[drive][at]
	for i := range m.waits {
		if m.waits[i].drive == drive && m.waits[i].at == at {
			b = &m.waits[i].b
		}
	}
	return b
}

// goes counts a write or flush; without power it is ErrDown.
func (m *model) goes() api.Errno {
	if m.count == 0 {
		m.off = true
	}
	if m.off {
		return api.ErrDown
	}
	if m.count > 0 {
		m.count--
	}
	return api.OK
}

// end makes the writes last whose picks are odd.
func (m *model) end(pick func(i int) bool) {
	for i, w := range m.waits {
		if pick(i) {
			m.lasting[w.drive][w.at] = w.b
		}
	}
	m.waits = nil
}

// wipe is what Lose and Replace have in common.
func (m *model) wipe(drive int, gone bool) api.Errno {
	if drive < 0 || drive >= modelDrives {
		return api.ErrArg
	}
	var left []note
	for _, w := range m.waits {
		if w.drive != drive {
			left = append(left, w)
		}
	}
	m.waits = left
	m.gone[drive] = gone
	m.lasting[drive] = [modelSectors][api.Sector]byte{}
	return api.OK
}

// both does one call to the rack and to the model, and answers what each said.
func both(r *rack.Rack, m *model, rnd *rand.Rand) (string, api.Errno, api.Errno) {
	drive, at := rnd.Intn(modelDrives+1), rnd.Intn(modelSectors+1)
	if rnd.Intn(20) == 0 {
		drive, at = -1-rnd.Intn(3), -1
	}
	switch k := rnd.Intn(40); {
	case k < 18:
		b := make([]byte, api.Sector-rnd.Intn(20)/19)
		rnd.Read(b)
		e := m.fault(drive, at, len(b) != api.Sector, true)
		if e == api.OK {
			e = m.goes()
		}
		if e == api.OK {
			m.waits = append(m.waits, note{drive, at, [api.Sector]byte(b)})
		}
		return "Write", r.Write(drive, at, b), e
	case k < 22:
		e := m.goes()
		if e == api.OK {
			m.end(func(int) bool { return true })
		}
		return "Flush", r.Flush(), e
	case k < 25:
		n := rnd.Intn(6) - 2
		m.count = max(n, -1)
		r.Arm(n)
		return "Arm", 0, 0
	case k < 30:
		picks := make([]int, rnd.Intn(8))
		for i := range picks {
			picks[i] = rnd.Intn(9) - 4
		}
		m.end(func(i int) bool { return i < len(picks) && picks[i]&1 == 1 })
		m.off, m.count = false, -1
		r.Crash(picks)
		return "Crash", 0, 0
	case k < 31:
		return "Lose", r.Lose(drive), m.wipe(drive, true)
	case k < 34:
		return "Replace", r.Replace(drive), m.wipe(drive, false)
	default:
		n := rnd.Intn(128*600) - 128*10
		e := m.fault(drive, at, n < 0, false)
		if e == api.OK {
			m.bytes(drive, at)[n%128] ^= byte(1 + (n/128)%255)
		}
		return "Rot", r.Rot(drive, at, n), e
	}
}

// same asks whether a rack looks as the model does.
func same(t *testing.T, r *rack.Rack, m *model) {
	t.Helper()
	if r.Pending() != len(m.waits) {
		t.Fatal("Pending", r.Pending(), "not", len(m.waits))
	}
	for drive := -1; drive <= modelDrives; drive++ {
		if gone := drive >= 0 && drive < modelDrives && m.gone[drive]; r.Gone(drive) != gone {
			t.Fatal("Gone", drive, "not", gone)
		}
		for at := -1; at <= modelSectors; at++ {
			must := ""
			e := m.fault(drive, at, false, true)
			if e == api.OK {
				must = string(m.bytes(drive, at)[:])
			}
			if b, got := r.Read(drive, at); got != e || string(b) != must {
				t.Fatal("Read", drive, at, "=", b, got, "not", []byte(must), e)
			}
		}
	}
}

// P1.1, P1.2: calls in whatever order answer as a plain model does.
func TestModel(t *testing.T) {
	for seed := range int64(40) {
		rnd := rand.New(rand.NewSource(seed))
		r := build(t, modelDrives, modelSectors)
		m := &model{count: -1}
		for k := range 500 {
			what, got, must := both(r, m, rnd)
			if got != must {
				t.Fatal("seed", seed, "call", k, what, got, "not", must)
			}
			same(t, r, m)
		}
	}
}
