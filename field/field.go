// Package field is layer 2: the field of 256 elements: see shared/doc/02-field.md.
package field

import (
	"sync"

	"hoard/api"
)

// order: so many elements are powers of 2, all but 0.
const order = 255

// modulus is x^8 + x^4 + x^3 + x^2 + 1, a bit for each power of x.
const modulus = 0x11d

// maxUnknowns: so many unknowns Solve takes.
const maxUnknowns = 8

// Field is the field; its zero value is ready.
type Field struct {
	once  sync.Once
	power [order]byte     // power[n] is 2 to the n-th
	log   [order + 1]byte // log[power[n]] is n; log[0] means nothing
}

// fill works the tables out.
func (f *Field) fill() {
	x := 1
	for n := range order {
		f.power[n] = byte(x)
		f.log[x] = byte(n)
		x *= 2
		if x > order {
			x ^= modulus
		}
	}
}

// ready is a field whose tables stand: f, or, as a nil one must answer too, a new one.
func (f *Field) ready() *Field {
	if f == nil {
		f = &Field{}
	}
	f.once.Do(f.fill)
	return f
}

// Mul: a product.
func (f *Field) Mul(a, b byte) byte {
	if a == 0 || b == 0 {
		return 0
	}
	t := f.ready()
	return t.power[(int(t.log[a])+int(t.log[b]))%order]
}

// Inv: what makes 1 with an element.
func (f *Field) Inv(a byte) (byte, api.Errno) {
	if a == 0 {
		return 0, api.ErrArg
	}
	t := f.ready()
	return t.power[(order-int(t.log[a]))%order], api.OK
}

// Pow: so many times itself.
func (f *Field) Pow(a byte, n int) (byte, api.Errno) {
	if n < 0 {
		return 0, api.ErrArg
	}
	if n == 0 {
		return 1, api.OK
	}
	if a == 0 {
		return 0, api.OK
	}
	t := f.ready()
	// n is taken modulo order first: the product with all of n might wrap round.
	return t.power[int(t.log[a])*(n%order)%order], api.OK
}

// Log: which power of 2 an element is.
func (f *Field) Log(a byte) (int, api.Errno) {
	if a == 0 {
		return 0, api.ErrArg
	}
	return int(f.ready().log[a]), api.OK
}
