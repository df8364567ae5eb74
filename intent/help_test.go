package intent_test

import (
	"crypto/sha256"
	"fmt"
	"math/rand"
	"slices"
	"strings"
	"testing"

	"hoard/api"
	"hoard/intent"
	"hoard/rack"
)

// build is a new rack.
func build(t *testing.T, drives, sectors int) *rack.Rack {
	t.Helper()
	r, e := rack.New(drives, sectors)
	want(t, "rack.New", e, api.OK)
	return r
}

// want holds an error against the one that must be.
func want(t *testing.T, what string, got, must api.Errno) {
	t.Helper()
	if got != must {
		t.Fatalf("%s: error %d, not %d", what, got, must)
	}
}

// opens holds Open to the intents that must stand there, and Base and Room to what is left then.
func opens(t *testing.T, r *rack.Rack, first, count, base int, must ...string) *intent.Log {
	t.Helper()
	l, all, e := intent.Open(r, first, count, base)
	if l == nil || e != api.OK || !slices.Equal(all, must) {
		t.Fatalf("Open(%d, %d, %d): %v, %q, %d, not %q", first, count, base, l, all, e, must)
	}
	room := count
	for _, s := range must {
		room -= pieces(s)
	}
	told(t, l, base, room)
	return l
}

// told holds Base and Room to what must be.
func told(t *testing.T, l *intent.Log, base, room int) {
	t.Helper()
	if l.Base() != base || l.Room() != room {
		t.Fatalf("Base %d, Room %d, not %d, %d", l.Base(), l.Room(), base, room)
	}
}

// refuses holds Open to an error.
func refuses(t *testing.T, r *rack.Rack, first, count, base int, must api.Errno) {
	t.Helper()
	if l, all, e := intent.Open(r, first, count, base); l != nil || len(all) > 0 || e != must {
		t.Fatalf("Open(%d, %d, %d): %v, %q, %d, not %d", first, count, base, l, all, e, must)
	}
}

// appends wants each text to be appended.
func appends(t *testing.T, l *intent.Log, texts ...string) {
	t.Helper()
	for _, s := range texts {
		room := l.Room()
		want(t, fmt.Sprintf("Append(%d bytes)", len(s)), l.Append(s), api.OK)
		told(t, l, l.Base(), room-pieces(s))
	}
}

// flush wants a flush to be done.
func flush(t *testing.T, r *rack.Rack) {
	t.Helper()
	want(t, "Flush", r.Flush(), api.OK)
}

// off makes the power go off.
func off(r *rack.Rack) {
	r.Arm(0)
	r.Flush()
}

// pieces counts the pieces of an intent as the chapter cuts it.
func pieces(s string) int {
	n := 1
	for ; len(s) > 56; s = s[56:] {
		n++
	}
	return n
}

// num is an item's bytes, word another one's.
func num(n int) string {
	if n < 0 {
		return "\x01" + count(uint64(-(n+1))*2+1)
	}
	return "\x01" + count(uint64(n)*2)
}

func word(s string) string { return "\x02" + count(uint64(len(s))) + s }

// count is a count's bytes.
func count(c uint64) string {
	if c < 128 {
		return string([]byte{byte(c)})
	}
	return string([]byte{byte(c%128) + 128}) + count(c/128)
}

// sealed is the sector of items' bytes.
func sealed(items ...string) []byte {
	body := strings.Join(items, "")
	sum := sha256.Sum256([]byte(body))
	b := append([]byte{byte(len(body) + 32)}, body...)
	b = append(b, sum[:]...)
	return append(b, make([]byte, 128-len(b))...)
}

// sector is a piece's sector.
func sector(base, k, last int, s string) []byte {
	return sealed(num(55), num(base), num(k), num(last), word(s))
}

// puts writes bytes to a drive's sector.
func puts(t *testing.T, r *rack.Rack, drive, at int, b []byte) {
	t.Helper()
	want(t, "rack.Write", r.Write(drive, at, b), api.OK)
}

// reads is what a drive's sector holds.
func reads(t *testing.T, r *rack.Rack, drive, at int) []byte {
	t.Helper()
	b, e := r.Read(drive, at)
	want(t, "rack.Read", e, api.OK)
	return b
}

// long is a text of n bytes, of which no two in a row are alike.
func long(n int) string {
	b := make([]byte, n)
	for i := range b {
		b[i] = byte(i + i/256)
	}
	return string(b)
}

// anyText is a text of up to n bytes.
func anyText(rnd *rand.Rand, n int) string {
	b := make([]byte, rnd.Intn(n+1))
	rnd.Read(b)
	return string(b)
}
