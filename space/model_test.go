package space_test

import (
	"bytes"
	"math/rand"
	"slices"
	"testing"

	"hoard/api"
	"hoard/space"
)

// What a cell of the model is.
const (
	free = iota
	used
	leaving
)

// row is cells, a byte each.
type row []byte

// ranges are those of the cells that are of a kind.
func (c row) ranges(kind byte) []space.Range {
	var r []space.Range
	for i, x := range c {
		switch {
		case x != kind:
		case len(r) > 0 && r[len(r)-1].To == i:
			r[len(r)-1].To++
		default:
			r = append(r, space.Range{From: i, To: i + 1})
		}
	}
	return r
}

// all: are n cells from a place on there, and of a kind?
func (c row) all(from, n int, kind byte) bool {
	return from >= 0 && n >= 1 && from+n <= len(c) && bytes.Count(c[from:from+n], []byte{kind}) == n
}

// change makes n cells that are all of a kind be of another one.
func (c row) change(from, n int, was, is byte) bool {
	if !c.all(from, n, was) {
		return false
	}
	for i := range n {
		c[from+i] = is
	}
	return true
}

// model is a space cell by cell.
type model struct {
	row
	kept int
}

// count is how many cells are of a kind.
func (m *model) count(kind byte) int { return bytes.Count(m.row, []byte{kind}) }

// take is what Take must do.
func (m *model) take(n int) (int, api.Errno) {
	if n < 1 {
		return 0, api.ErrArg
	}
	if n <= m.count(free)-m.kept {
		for a := range m.row {
			if m.change(a, n, free, used) {
				return a, api.OK
			}
		}
	}
	return 0, api.ErrSpace
}

// give is what Give must do.
func (m *model) give(from, n int) api.Errno {
	if n < 1 || from < 0 || from+n > len(m.row) {
		return api.ErrArg
	}
	if !m.change(from, n, used, leaving) {
		return api.ErrMiss
	}
	return api.OK
}

// settle is what Settle must do.
func (m *model) settle() int {
	n := m.count(leaving)
	for i, x := range m.row {
		if x == leaving {
			m.row[i] = free
		}
	}
	return n
}

// reserve is what Reserve must do.
func (m *model) reserve(n int) api.Errno {
	if m.kept+n < 0 {
		return api.ErrArg
	}
	if n > m.count(free)-m.kept {
		return api.ErrSpace
	}
	m.kept += n
	return api.OK
}

// same holds a space to the model.
func (m *model) same(t *testing.T, s *space.Space) {
	t.Helper()
	is(t, s, m.count(free)-m.kept, m.ranges(free), m.ranges(used))
}

// call does one call to both, and holds its answers.
func (m *model) call(t *testing.T, s *space.Space, rnd *rand.Rand) {
	t.Helper()
	n := rnd.Intn(6) - 1 + rnd.Intn(30)/29*10
	from := rnd.Intn(len(m.row)+3) - 1
	switch k := rnd.Intn(20); {
	case k < 8:
		a, e := s.Take(n)
		if b, f := m.take(n); a != b || e != f {
			t.Fatalf("Take(%d) = %d, %d, not %d, %d", n, a, e, b, f)
		}
	case k < 15:
		want(t, "Give", s.Give(from, n), m.give(from, n))
	case k < 17:
		if a, b := s.Settle(), m.settle(); a != b {
			t.Fatal("Settle", a, "not", b)
		}
	default:
		n = rnd.Intn(9) - 4
		want(t, "Reserve", s.Reserve(n), m.reserve(n))
	}
}

// P7.1, P7.3: calls in whatever order answer as cells that are told one by one.
func TestModel(t *testing.T) {
	for seed := range int64(150) {
		rnd := rand.New(rand.NewSource(seed))
		m := &model{row: make(row, 1+rnd.Intn(30))}
		var in []space.Range
		for i := range m.row {
			if rnd.Intn(3) == 0 {
				m.row[i] = used
				in = append(in, space.Range{From: i, To: i + 1})
			}
		}
		rnd.Shuffle(len(in), func(i, k int) { in[i], in[k] = in[k], in[i] })
		s, e := space.New(len(m.row), in)
		if e != api.OK {
			t.Fatal(e)
		}
		for range 200 {
			m.same(t, s)
			old, was := s.Copy(), &model{slices.Clone(m.row), m.kept}
			m.call(t, s, rnd)
			was.same(t, old)
			if rnd.Intn(10) == 0 { // the copy goes on, the other one goes another way
				for range 3 {
					m.call(t, s, rnd)
				}
				s, m = old, was
			}
		}
		if t.Failed() {
			t.Fatal("seed", seed)
		}
	}
}

// P7.1: as many ranges as there can be, given back in whatever order.
func TestManyRanges(t *testing.T) {
	const n = 40000
	var in []space.Range
	for i := 1; i < n; i += 2 {
		in = append(in, space.Range{From: i, To: i + 1})
	}
	rnd := rand.New(rand.NewSource(7))
	rnd.Shuffle(len(in), func(i, k int) { in[i], in[k] = in[k], in[i] })
	s, e := space.New(n, in)
	if e != api.OK || s.Free() != n/2 || len(s.Ranges()) != n/2 || len(s.Used()) != n/2 {
		t.Fatal(e, s.Free())
	}
	takes(t, s, 2, -1)
	for _, r := range in[:n/4] {
		want(t, "Give", s.Give(r.From, 1), api.OK)
	}
	if s.Free() != n/2 || s.Settle() != n/4 || s.Free() != n/2+n/4 {
		t.Error(s.Free())
	}
	for _, r := range in[n/4:] {
		want(t, "Give", s.Give(r.From, 1), api.OK)
	}
	if s.Settle() != n/4 {
		t.Error("Settle")
	}
	is(t, s, n, list(0, n), nil)
}
