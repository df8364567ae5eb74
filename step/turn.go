package step

import "hoard/api"

// The steps that a call has done.
const (
	begun = iota
	holding
	effected
	over
)

// turn is a client's call, and how far it is.
type turn struct {
	call   Call
	steps  int
	result Result // from effected on
}

// holds: does it hold the lock?
func (t *turn) holds() bool { return t.steps == holding || t.steps == effected }

// shares: do calls of this kind share the lock with one another?
func shares(kind int) bool {
	return !changes(kind) && kind != Open && kind != Close
}

// locked: does a client's call hold the lock in a way that one of this kind can't share?
func (m *Machine) locked(kind int) bool {
	for _, t := range m.turns {
		if t != nil && t.holds() && !(shares(kind) && shares(t.call.Kind)) {
			return true
		}
	}
	return false
}

// client: is it one of the clients? A nil machine has none.
func (m *Machine) client(client int) bool {
	return !m.none() && client >= 0 && client < len(m.turns)
}

// Begin: a client begins a call.
func (m *Machine) Begin(client int, c Call) api.Errno {
	if !m.client(client) {
		return api.ErrArg
	}
	if m.turns[client] != nil {
		return api.ErrBusy
	}
	m.turns[client] = &turn{call: kept(c)}
	return api.OK
}

// turn is what a client's call is.
func (m *Machine) turn(client int) (*turn, api.Errno) {
	if !m.client(client) {
		return nil, api.ErrArg
	}
	if m.turns[client] == nil {
		return nil, api.ErrMiss
	}
	return m.turns[client], api.OK
}

// Step: a client's call goes one step on; how many steps it has done.
func (m *Machine) Step(client int) (int, api.Errno) {
	t, e := m.turn(client)
	if e != api.OK {
		return 0, e
	}
	switch t.steps {
	case begun:
		if !m.locked(t.call.Kind) {
			t.steps = holding
		}
	case holding:
		t.result = m.effect(t.call)
		t.steps = effected
	case effected:
		t.steps = over
	}
	return t.steps, api.OK
}

// Result: what a client's call came to.
func (m *Machine) Result(client int) (Result, api.Errno) {
	t, e := m.turn(client)
	if e != api.OK {
		return Result{}, e
	}
	if t.steps != over {
		return Result{}, api.ErrBusy
	}
	m.turns[client] = nil
	return t.result, api.OK
}

// Idle: has no client a call?
func (m *Machine) Idle() bool {
	return m.none() || m.turns == [api.MaxClients]*turn{}
}
