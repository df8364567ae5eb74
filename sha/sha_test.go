package sha_test

import (
	"bytes"
	"crypto/sha256"
	"encoding/hex"
	"math/rand"
	"slices"
	"testing"

	"hoard/api"
	"hoard/sha"
)

// text is some bytes, always the same ones for one count.
func text(n int) []byte {
	b := make([]byte, n)
	rand.New(rand.NewSource(int64(n))).Read(b)
	return b
}

// want is the sum of bytes, worked out by Go's own library.
func want(b []byte) string {
	s := sha256.Sum256(b)
	return string(s[:])
}

// P4.1: the chapter's example.
func TestExample(t *testing.T) {
	for s, w := range map[string]string{
		"abc": "ba7816bf8f01cfea414140de5dae2223b00361a396177a9cb410ff61f20015ad",
		"":    "e3b0c44298fc1c149afbf4c8996fb92427ae41e4649b934ca495991b7852b855",
	} {
		if d, e := sha.Digits(sha.Sum([]byte(s))); d != w || e != api.OK {
			t.Error(s, d, e)
		}
	}
	if d, e := sha.Digits("x"); d != "" || e != api.ErrArg {
		t.Error(d, e)
	}
	if c, e := sha.Open([]byte("abc")); len(c) != 0 || e != api.ErrForm {
		t.Error(c, e)
	}
}

// P4.1: all counts of bytes around the ends of some blocks, and greater ones.
func TestSum(t *testing.T) {
	for n := range 400 {
		if b := text(n); sha.Sum(b) != want(b) {
			t.Error(n)
		}
	}
	for _, n := range []int{1024, 4095, 4096, 60000, 1<<20 + 55, 1<<20 + 56} {
		if b := text(n); sha.Sum(b) != want(b) {
			t.Error(n)
		}
	}
}

// P4.1: all bytes of one kind; nil and none are one.
func TestSumOfLike(t *testing.T) {
	for _, c := range []byte{0, 1, 127, 128, 255} {
		for _, n := range []int{1, 55, 56, 63, 64, 119, 120, 128, 1000} {
			if b := bytes.Repeat([]byte{c}, n); sha.Sum(b) != want(b) {
				t.Error(c, n)
			}
		}
	}
	if sha.Sum(nil) != sha.Sum([]byte{}) || sha.Sum(nil) != want(nil) {
		t.Error("nil")
	}
}

// P4.1: more bits than four bytes can count.
func TestSumOfMany(t *testing.T) {
	if b := make([]byte, 1<<29+3); sha.Sum(b) != want(b) {
		t.Error("many")
	}
}

// P4.1: each byte has its two digits; a sum has 32 bytes.
func TestDigits(t *testing.T) {
	for from := 0; from < 256; from += 32 {
		var b []byte
		for i := range 32 {
			b = append(b, byte(from+i))
		}
		if d, e := sha.Digits(string(b)); d != hex.EncodeToString(b) || e != api.OK {
			t.Error(from, d, e)
		}
	}
	for n := range 100 {
		d, e := sha.Digits(string(text(n)))
		if n != 32 && (d != "" || e != api.ErrArg) {
			t.Error(n, d, e)
		}
	}
}

// P4.2: bytes, and their sum behind; what is opened is what was sealed.
func TestSeal(t *testing.T) {
	for n := range 200 {
		b := text(n)
		s := sha.Seal(b)
		if string(s) != string(b)+want(b) {
			t.Error(n, s)
		}
		if c, e := sha.Open(s); e != api.OK || !bytes.Equal(c, b) {
			t.Error(n, c, e)
		}
	}
	if c, e := sha.Open(sha.Seal(nil)); e != api.OK || len(c) != 0 {
		t.Error(c, e)
	}
}

// P4.2: what isn't sealed isn't opened.
func TestOpenRefuses(t *testing.T) {
	s := sha.Seal(text(70))
	wrong := [][]byte{nil, {}, s[1:], s[:len(s)-1], append(slices.Clone(s), 0), make([]byte, 32), make([]byte, 64)}
	for i := range s {
		for k := range 8 {
			x := slices.Clone(s)
			x[i] ^= 1 << k
			wrong = append(wrong, x)
		}
	}
	for n := range 32 {
		wrong = append(wrong, text(n), s[len(s)-n:], sha.Seal(nil)[:n])
	}
	for _, x := range wrong {
		if c, e := sha.Open(x); len(c) != 0 || e != api.ErrForm {
			t.Error(x, c, e)
		}
	}
}

// P4.3: neither what is handed in nor its spare room is changed.
func TestUnchanged(t *testing.T) {
	for _, n := range []int{0, 1, 55, 56, 64, 100} {
		sealed := append(sha.Seal(text(n)), text(300)...)
		other := text(n + 300)
		for _, room := range [][]byte{sealed, other} {
			was := slices.Clone(room)
			sha.Sum(room[:n])
			sha.Seal(room[:n])
			sha.Open(room[:n+32])
			sha.Open(room[:n+31])
			if !bytes.Equal(room, was) {
				t.Error(n)
			}
		}
	}
}

// P4.3: an answer shares no memory with what was handed in, nor with another answer.
func TestNewMemory(t *testing.T) {
	b := text(50)
	s := sha.Seal(b)
	clear(b)
	if string(s[:50]) != string(text(50)) {
		t.Error("Seal keeps what is handed in")
	}
	one, _ := sha.Open(s)
	two, _ := sha.Open(s)
	clear(s)
	clear(one[:cap(one)])
	if string(two) != string(text(50)) {
		t.Error("Open keeps what is handed in")
	}
	three := sha.Seal(text(9))
	clear(three[:cap(three)])
	if string(sha.Seal(text(9))) != string(text(9))+want(text(9)) {
		t.Error("Seal keeps its answer")
	}
}

// P4.1: the answers don't hang on what was asked ahead, nor on others who ask at the same time.
func TestTogether(t *testing.T) {
	said := make(chan bool)
	for n := range 8 {
		go func() { said <- sha.Sum(text(n*1000)) == want(text(n*1000)) }()
	}
	for range 8 {
		if !<-said {
			t.Error("together")
		}
	}
}
