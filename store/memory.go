package store

import (
	"slices"
	"strings"

	"hoard/api"
)

// room: so many blocks are remembered.
const room = 64

// block is one that is remembered.
type block struct {
	addr  int
	sum   string
	bytes []byte
}

// memory is the blocks that are remembered: no two of one address, the oldest first.
type memory struct {
	blocks []block
}

// place is where the block of an address stands, or -1.
func (m *memory) place(addr int) int {
	return slices.IndexFunc(m.blocks, func(b block) bool { return b.addr == addr })
}

// recall tells a block's bytes, if it is remembered; it is the youngest then.
func (m *memory) recall(p api.Ptr) ([]byte, bool) {
	i := m.place(p.Addr)
	if i < 0 || m.blocks[i].sum != p.Sum || len(m.blocks[i].bytes) != p.Size {
		return nil, false
	}
	b := m.blocks[i]
	m.blocks = append(slices.Delete(m.blocks, i, i+1), b)
	return slices.Clone(b.bytes), true
}

// remember keeps a block as the youngest, in the place of another one of its address.
func (m *memory) remember(p api.Ptr, b []byte) {
	m.forget(p.Addr)
	if len(m.blocks) == room {
		m.blocks = slices.Delete(m.blocks, 0, 1)
	}
	m.blocks = append(m.blocks, block{p.Addr, strings.Clone(p.Sum), slices.Clone(b)})
}

// forget leaves nothing of an address.
func (m *memory) forget(addr int) {
	if i := m.place(addr); i >= 0 {
		m.blocks = slices.Delete(m.blocks, i, i+1)
	}
}
