package field_test

import (
	"bytes"
	"math/rand"
	"testing"

	"hoard/api"
	"hoard/field"
)

// sides is the right sides that x makes.
func sides(rows [][]byte, x []byte) []byte {
	out := make([]byte, len(rows))
	for i, row := range rows {
		for k, c := range row {
			out[i] ^= slow(c, x[k])
		}
	}
	return out
}

// random is n rows of n coefficients; often noughts among them, so that rows must change places.
func random(rnd *rand.Rand, n int) [][]byte {
	rows := make([][]byte, n)
	for i := range rows {
		rows[i] = make([]byte, n)
		for k := range rows[i] {
			if rnd.Intn(3) > 0 {
				rows[i][k] = byte(rnd.Intn(256))
			}
		}
	}
	return rows
}

// mix is a sum of rows, each one times a factor more.
func mix(rows [][]byte, factor byte) []byte {
	sum := make([]byte, len(rows[0]))
	by := byte(1)
	for _, row := range rows {
		for k, c := range row {
			sum[k] ^= slow(c, by)
		}
		by = slow(by, factor)
	}
	return sum
}

// determinant by its first row: not 0 just where there is one solution.
func determinant(rows [][]byte) byte {
	if len(rows) == 0 {
		return 1
	}
	sum := byte(0)
	for k, c := range rows[0] {
		if c == 0 {
			continue
		}
		var rest [][]byte
		for _, row := range rows[1:] {
			rest = append(rest, append(append([]byte{}, row[:k]...), row[k+1:]...))
		}
		sum ^= slow(c, determinant(rest))
	}
	return sum
}

// P2.2: random equations of each size: the one solution, or ErrMiss just where there isn't one.
func TestSolve(t *testing.T) {
	rnd := rand.New(rand.NewSource(1))
	for name, f := range fields() {
		for n := 1; n <= 8; n++ {
			tries := 40
			if n < 7 {
				tries = 300
			}
			for range tries {
				rows := random(rnd, n)
				if n > 1 && rnd.Intn(4) == 0 { // a row that the others make
					rows[n-1] = mix(rows[:n-1], byte(rnd.Intn(256)))
				}
				x := make([]byte, n)
				rnd.Read(x)
				got, e := f.Solve(rows, sides(rows, x))
				if determinant(rows) == 0 {
					if len(got) != 0 || e != api.ErrMiss {
						t.Fatal(name, rows, got, e)
					}
				} else if e != api.OK || !bytes.Equal(got, x) {
					t.Fatal(name, rows, got, x, e)
				}
			}
		}
	}
}

// P2.2: no solution, or more than one: ErrMiss both.
func TestSolveMisses(t *testing.T) {
	for name, f := range fields() {
		for _, c := range []struct {
			rows  [][]byte
			right []byte
		}{
			{[][]byte{{0}}, []byte{0}},
			{[][]byte{{0}}, []byte{1}},
			{[][]byte{{1, 1}, {1, 1}}, []byte{0, 0}},
			{[][]byte{{1, 1}, {1, 1}}, []byte{0, 1}},
			{[][]byte{{1, 2}, {2, 4}}, []byte{1, 2}},
			{[][]byte{{0, 1}, {0, 7}}, []byte{1, 7}},
			{[][]byte{{1, 0, 0}, {0, 1, 0}, {1, 1, 0}}, []byte{1, 1, 0}},
			{make8(0), make([]byte, 8)},
		} {
			if x, e := f.Solve(c.rows, c.right); len(x) != 0 || e != api.ErrMiss {
				t.Error(name, c, x, e)
			}
		}
	}
}

// make8 is 8 rows with c in their middle line.
func make8(c byte) [][]byte {
	rows := make([][]byte, 8)
	for i := range rows {
		rows[i] = make([]byte, 8)
		rows[i][i] = c
	}
	return rows
}

// P2.2: what aren't as many equations as unknowns, 1 to 8.
func TestSolveRefuses(t *testing.T) {
	nine := make([][]byte, 9)
	for i := range nine {
		nine[i] = make([]byte, 9)
		nine[i][i] = 1
	}
	for name, f := range fields() {
		for _, c := range []struct {
			rows  [][]byte
			right []byte
		}{
			{nil, nil},
			{[][]byte{}, []byte{}},
			{nil, []byte{1}},
			{[][]byte{{1}}, nil},
			{[][]byte{{1}}, []byte{1, 2}},
			{[][]byte{{}}, []byte{1}},
			{[][]byte{nil}, []byte{1}},
			{[][]byte{{1, 2}}, []byte{1}},
			{[][]byte{{1, 1}}, []byte{0, 0}},
			{[][]byte{{1, 1}, {1}}, []byte{0, 0}},
			{[][]byte{{1, 1}, {1, 2, 3}}, []byte{0, 0}},
			{[][]byte{{1}, {1, 2}}, []byte{0, 0}},
			{[][]byte{{1, 1}, nil}, []byte{0, 0}},
			{[][]byte{{1, 1}, {1, 2}}, []byte{0}},
			{[][]byte{{1, 1}, {1, 2}}, []byte{0, 0, 0}},
			{[][]byte{{0, 0}, {0}}, []byte{0, 0}}, // ErrArg ahead of ErrMiss
			{nine, make([]byte, 9)},
			{nine[:8], make([]byte, 8)},
		} {
			if x, e := f.Solve(c.rows, c.right); len(x) != 0 || e != api.ErrArg {
				t.Error(name, c, x, e)
			}
		}
		if x, e := f.Solve(make8(1), []byte("abcdefgh")); e != api.OK || string(x) != "abcdefgh" {
			t.Error(name, x, e)
		}
	}
}

// P2.3: rows and right stay as they are, their spare room too; answers are new memory.
func TestSolveMemory(t *testing.T) {
	f := &field.Field{}
	room := []byte{0, 2, 9, 9, 3, 1, 9, 9}
	sides := []byte{5, 9, 9, 9}
	rows := [][]byte{room[0:2], room[4:6], {7, 7}}
	one, e := f.Solve(rows[:2], sides[:2])
	if e != api.OK || !bytes.Equal(room, []byte{0, 2, 9, 9, 3, 1, 9, 9}) || !bytes.Equal(sides, []byte{5, 9, 9, 9}) {
		t.Error(e, room, sides)
	}
	if &rows[0][0] != &room[0] || &rows[1][0] != &room[4] || !bytes.Equal(rows[2], []byte{7, 7}) {
		t.Error("rows have changed places")
	}
	was := bytes.Clone(one)
	one[0], one[1] = 200, 201
	two, e := f.Solve(rows[:2], sides[:2])
	if e != api.OK || !bytes.Equal(two, was) {
		t.Error(two, was, e)
	}
	two[0] = 17
	if one[0] != 200 || sides[0] != 5 {
		t.Error("answers share memory")
	}
}

// The chapter's second example.
func TestSolveExample(t *testing.T) {
	var f field.Field
	x, e := f.Solve([][]byte{{1, 1}, {1, 2}}, []byte{5, 9})
	if e != api.OK || len(x) != 2 || x[0]^x[1] != 5 || x[0]^slow(2, x[1]) != 9 {
		t.Error(x, e)
	}
	if x, e := f.Solve([][]byte{{1, 1}, {1, 1}}, []byte{0, 0}); len(x) != 0 || e != api.ErrMiss {
		t.Error(x, e)
	}
}
