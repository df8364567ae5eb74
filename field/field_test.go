package field_test

import (
	"math"
	"sync"
	"testing"

	"hoard/api"
	"hoard/field"
)

// slow is a product, as polynomials: first the product itself, then its rest.
func slow(a, b byte) byte {
	p := 0
	for k := range 8 {
		if b>>k&1 == 1 {
			p ^= int(a) << k
		}
	}
	for k := 14; k >= 8; k-- {
		if p>>k&1 == 1 {
			p ^= 0b100011101 << (k - 8)
		}
	}
	return byte(p)
}

// fields are a ready one, one that was asked ahead, and a nil one.
func fields() map[string]*field.Field {
	asked := &field.Field{}
	asked.Mul(77, 3)
	asked.Inv(9)
	asked.Solve([][]byte{{4, 1}, {4, 1}}, []byte{1, 2})
	return map[string]*field.Field{"new": {}, "asked": asked, "nil": nil}
}

// P2.1: all products, against those of polynomials.
func TestMul(t *testing.T) {
	for name, f := range fields() {
		for a := range 256 {
			for b := range 256 {
				if x := f.Mul(byte(a), byte(b)); x != slow(byte(a), byte(b)) {
					t.Fatal(name, a, b, x)
				}
			}
		}
	}
}

// P2.1: all inverses.
func TestInv(t *testing.T) {
	for name, f := range fields() {
		for a := 1; a < 256; a++ {
			if x, e := f.Inv(byte(a)); e != api.OK || slow(byte(a), x) != 1 {
				t.Fatal(name, a, x, e)
			}
		}
		if x, e := f.Inv(0); x != 0 || e != api.ErrArg {
			t.Error(name, x, e)
		}
	}
}

// P2.1: powers, one multiplication after the other, and far beyond.
func TestPow(t *testing.T) {
	for name, f := range fields() {
		for a := range 256 {
			x := byte(1)
			for n := range 600 {
				if y, e := f.Pow(byte(a), n); e != api.OK || y != x {
					t.Fatal(name, a, n, y, e)
				}
				x = slow(x, byte(a))
			}
			for _, n := range []int{-1, -255, math.MinInt} {
				if y, e := f.Pow(byte(a), n); y != 0 || e != api.ErrArg {
					t.Fatal(name, a, n, y, e)
				}
			}
			for _, n := range []int{1 << 32, math.MaxInt32, math.MaxInt, math.MaxInt - 1} {
				must := byte(0)
				if a != 0 {
					must, _ = f.Pow(byte(a), n%255)
				}
				if y, e := f.Pow(byte(a), n); e != api.OK || y != must {
					t.Fatal(name, a, n, y, e)
				}
			}
		}
	}
}

// P2.1: each element but 0 is a power of 2, from 0 to 254.
func TestLog(t *testing.T) {
	for name, f := range fields() {
		x := byte(1)
		for n := range 255 {
			if k, e := f.Log(x); e != api.OK || k != n {
				t.Fatal(name, x, k, e)
			}
			x = slow(x, 2)
		}
		if k, e := f.Log(0); k != 0 || e != api.ErrArg {
			t.Error(name, k, e)
		}
	}
}

// P2.1, P2.3: a field that is first asked by several at once answers as any other.
func TestAtOnce(t *testing.T) {
	f := &field.Field{}
	var all sync.WaitGroup
	var wrong [8]int
	for k := range wrong {
		all.Add(1)
		go func() {
			defer all.Done()
			for a := range 256 {
				if f.Mul(byte(a), byte(k+29)) != slow(byte(a), byte(k+29)) {
					wrong[k]++
				}
			}
		}()
	}
	all.Wait()
	if wrong != [8]int{} {
		t.Error(wrong)
	}
}

// The chapter's first example.
func TestExample(t *testing.T) {
	var f field.Field
	if f.Mul(2, 128) != 29 || f.Mul(3, 7) != 9 {
		t.Error("Mul")
	}
	if x, e := f.Inv(2); x != 142 || e != api.OK {
		t.Error(x, e)
	}
	if x, e := f.Pow(2, 8); x != 29 || e != api.OK {
		t.Error(x, e)
	}
	if x, e := f.Pow(0, 0); x != 1 || e != api.OK {
		t.Error(x, e)
	}
	if n, e := f.Log(29); n != 8 || e != api.OK {
		t.Error(n, e)
	}
	if n, e := f.Log(1); n != 0 || e != api.OK {
		t.Error(n, e)
	}
	if x, e := f.Inv(0); x != 0 || e != api.ErrArg {
		t.Error(x, e)
	}
}
