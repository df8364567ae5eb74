package pack_test

import (
	"bytes"
	"math"
	"math/big"
	"math/rand"
	"slices"
	"strings"
	"testing"

	"hoard/api"
	"hoard/pack"
)

func num(n int) api.Item     { return api.Item{Kind: 1, N: n} }
func text(s string) api.Item { return api.Item{Kind: 2, S: s} }

// long is a text of n bytes.
func long(n int) string { return strings.Repeat("x", n) }

// count spells a count by division of numbers without an end: nothing wraps round.
func count(c *big.Int) []byte {
	base := big.NewInt(128)
	var digits []byte
	for {
		var digit big.Int
		c, _ = new(big.Int).DivMod(c, base, &digit)
		if c.Sign() == 0 {
			return append(digits, byte(digit.Int64()))
		}
		digits = append(digits, byte(digit.Int64())+128)
	}
}

// spell is what Encode must answer.
func spell(l []api.Item) []byte {
	b := []byte{}
	for _, x := range l {
		if x.Kind == 2 {
			b = append(b, 2)
			b = append(b, count(big.NewInt(int64(len(x.S))))...)
			b = append(b, x.S...)
			continue
		}
		c := big.NewInt(int64(x.N))
		c.Mul(c, big.NewInt(2))
		if x.N < 0 {
			c.Neg(c)
			c.Sub(c, big.NewInt(1))
		}
		b = append(b, 1)
		b = append(b, count(c)...)
	}
	return b
}

// both holds Encode and Decode to a list's bytes.
func both(t *testing.T, l []api.Item) {
	t.Helper()
	must := spell(l)
	b, e := pack.Encode(l)
	if e != api.OK || !bytes.Equal(b, must) {
		t.Fatalf("Encode(%.60v) = %.60v, %v, not %.60v", l, b, e, must)
	}
	back, e := pack.Decode(must)
	if e != api.OK || !slices.Equal(back, l) {
		t.Fatalf("Decode(%.60v) = %.60v, %v, not %.60v", must, back, e, l)
	}
}

// unencoded: Encode answers that error, and nothing else.
func unencoded(t *testing.T, what string, l []api.Item, must api.Errno) {
	t.Helper()
	if b, e := pack.Encode(l); e != must || len(b) != 0 {
		t.Errorf("Encode of %s: %.60v, %v, not %v", what, b, e, must)
	}
}

// undecoded: Decode answers ErrForm, and nothing else.
func undecoded(t *testing.T, what string, b []byte) {
	t.Helper()
	if l, e := pack.Decode(b); e != api.ErrForm || len(l) != 0 {
		t.Errorf("Decode of %s: %.60v, %v, not ErrForm", what, l, e)
	}
}

// P5.1: the chapter's first example.
func TestExample(t *testing.T) {
	b, e := pack.Encode([]api.Item{num(-1), text("ab"), num(64)})
	if e != api.OK || !bytes.Equal(b, []byte{1, 1, 2, 2, 97, 98, 1, 128, 1}) {
		t.Error(b, e)
	}
	undecoded(t, "a count that is too long", []byte{1, 128, 0})
	undecoded(t, "a number without a count", []byte{1})
	if l, e := pack.Decode(nil); e != api.OK || len(l) != 0 {
		t.Error(l, e)
	}
	unencoded(t, "a number with a text", []api.Item{{Kind: 1, N: 5, S: "x"}}, api.ErrForm)
}

// P5.1: numbers about every edge of a count's bytes, the least and the greatest one.
func TestNumbers(t *testing.T) {
	for i := range 64 {
		edge := 1 << i // the last one is the least number
		for d := -2; d <= 2; d++ {
			both(t, []api.Item{num(edge + d)})
			both(t, []api.Item{num(-edge + d)})
		}
	}
	both(t, []api.Item{num(math.MaxInt), num(math.MinInt)})
	rnd := rand.New(rand.NewSource(5))
	for range 2000 {
		both(t, []api.Item{num(int(rnd.Uint64()) >> rnd.Intn(64))})
	}
}

// P5.1: the bytes of the greatest counts, as the chapter tells them.
func TestGreatest(t *testing.T) {
	b, e := pack.Encode([]api.Item{num(math.MinInt)})
	if must := append([]byte{1}, 255, 255, 255, 255, 255, 255, 255, 255, 255, 1); e != api.OK || !bytes.Equal(b, must) {
		t.Error(b, e)
	}
	b, e = pack.Encode([]api.Item{num(math.MaxInt)})
	if must := append([]byte{1}, 254, 255, 255, 255, 255, 255, 255, 255, 255, 1); e != api.OK || !bytes.Equal(b, must) {
		t.Error(b, e)
	}
}

// P5.1: texts of any bytes, up to the longest.
func TestTexts(t *testing.T) {
	for _, n := range []int{0, 1, 2, 126, 127, 128, 129, 255, 256, 3999, api.MaxText} {
		both(t, []api.Item{text(long(n))})
		both(t, []api.Item{text(strings.Repeat("\x00", n)), text(strings.Repeat("\xff", n))})
	}
	for c := range 256 {
		both(t, []api.Item{text(string([]byte{byte(c)}))})
	}
}

// P5.1: lists of all lengths about the limit, and mixed ones.
func TestLists(t *testing.T) {
	for _, n := range []int{0, 1, 2, 3, 1999, api.MaxItems} {
		both(t, slices.Repeat([]api.Item{num(7)}, n))
		both(t, slices.Repeat([]api.Item{text("")}, n))
	}
	rnd := rand.New(rand.NewSource(6))
	for range 300 {
		l := []api.Item{}
		for range rnd.Intn(20) {
			if rnd.Intn(2) == 0 {
				l = append(l, num(int(rnd.Uint64())>>rnd.Intn(64)))
			} else {
				b := make([]byte, rnd.Intn(300))
				rnd.Read(b)
				l = append(l, text(string(b)))
			}
		}
		both(t, l)
	}
}

// P5.1: nil and empty lists are one.
func TestNone(t *testing.T) {
	for _, l := range [][]api.Item{nil, {}} {
		if b, e := pack.Encode(l); e != api.OK || len(b) != 0 {
			t.Error(b, e)
		}
	}
	for _, b := range [][]byte{nil, {}} {
		if l, e := pack.Decode(b); e != api.OK || len(l) != 0 {
			t.Error(l, e)
		}
	}
}

// P5.1: what Encode refuses.
func TestEncodeRefuses(t *testing.T) {
	sevens := slices.Repeat([]api.Item{num(7)}, api.MaxItems)
	unencoded(t, "too many items", append(sevens, num(7)), api.ErrBig)
	unencoded(t, "too long a text", []api.Item{text(long(api.MaxText + 1))}, api.ErrBig)
	unencoded(t, "a long text behind others", append(sevens[:5:5], text(long(5000))), api.ErrBig)
	for _, k := range []int{0, 3, -1, 257, 258, math.MaxInt, math.MinInt} {
		unencoded(t, "another kind", []api.Item{{Kind: k}}, api.ErrForm)
		unencoded(t, "another kind with a long text", []api.Item{{Kind: k, S: long(5000)}}, api.ErrForm)
		unencoded(t, "another kind between others", []api.Item{num(1), {Kind: k, N: 1}, num(2)}, api.ErrForm)
	}
	unencoded(t, "a number with a text", []api.Item{{Kind: 1, S: "x"}}, api.ErrForm)
	unencoded(t, "a number with a long text", []api.Item{{Kind: 1, S: long(5000)}}, api.ErrForm)
	unencoded(t, "a text with a number", []api.Item{{Kind: 2, N: 1, S: "x"}}, api.ErrForm)
	unencoded(t, "a text with a number below 0", []api.Item{{Kind: 2, N: -1}}, api.ErrForm)
	unencoded(t, "a fault at the end", append(sevens[:1999:1999], api.Item{}), api.ErrForm)
}

// P5.1: ErrBig is looked for ahead of ErrForm, wherever the two faults stand.
func TestEncodeOrder(t *testing.T) {
	wrong := api.Item{Kind: 3}
	big := text(long(api.MaxText + 1))
	unencoded(t, "wrong, then too big", []api.Item{wrong, big}, api.ErrBig)
	unencoded(t, "too big, then wrong", []api.Item{big, wrong}, api.ErrBig)
	unencoded(t, "too big and wrong", []api.Item{{Kind: 2, N: 1, S: big.S}}, api.ErrBig)
	unencoded(t, "too many and wrong", slices.Repeat([]api.Item{wrong}, api.MaxItems+1), api.ErrBig)
	unencoded(t, "so many and wrong", slices.Repeat([]api.Item{wrong}, api.MaxItems), api.ErrForm)
}

// P5.1: what Decode refuses: other kinds, counts cut off, too long or too great, texts cut off.
func TestDecodeRefuses(t *testing.T) {
	for k := range 256 {
		if k != 1 && k != 2 {
			undecoded(t, "another kind", []byte{byte(k), 0})
			undecoded(t, "another kind behind a number", []byte{1, 4, byte(k), 0})
		}
	}
	for n := range 12 {
		nines := bytes.Repeat([]byte{128}, n)
		undecoded(t, "a count cut off", append([]byte{1}, nines...))
		if n > 0 {
			undecoded(t, "a count with a nought behind", append(append([]byte{1}, nines...), 0))
		}
	}
	full := bytes.Repeat([]byte{255}, 9)
	for last := 2; last < 256; last++ {
		undecoded(t, "more than 64 bits", append(append([]byte{1}, full...), byte(last)))
		undecoded(t, "more than ten bytes", append(append([]byte{1}, full...), byte(last), 1))
	}
	undecoded(t, "a text cut off", []byte{2, 5, 'a', 'b', 'c', 'd'})
	undecoded(t, "a text whose count is too long", []byte{2, 129, 0, 'a'})
	undecoded(t, "a text as long as no other", append(append([]byte{2}, full...), 1))
	undecoded(t, "a text without a count", []byte{2})
	undecoded(t, "one byte too many", []byte{1, 4, 1})
	undecoded(t, "too long a text", spell([]api.Item{text(long(api.MaxText + 1))}))
	undecoded(t, "too many items", spell(slices.Repeat([]api.Item{num(7)}, api.MaxItems+1)))
	undecoded(t, "far too many", spell(slices.Repeat([]api.Item{text("")}, 3*api.MaxItems)))
}

// P5.1: of all bytes up to a length just those are decoded that some list has.
func TestInverse(t *testing.T) {
	alphabet := []byte{0, 1, 2, 3, 127, 128, 129, 255}
	good := map[string]int{}
	lists([]byte{}, alphabet, 5, good)
	tell := func(b []byte) {
		l, e := pack.Decode(b)
		if (e == api.OK) != (good[string(b)] == 1) {
			t.Fatalf("Decode(%v) = %v, %v", b, l, e)
		}
		if back, f := pack.Encode(l); e == api.OK && (f != api.OK || !bytes.Equal(back, b)) {
			t.Fatalf("Encode(%v) = %v, %v, not %v", l, back, f, b)
		}
	}
	strung(nil, alphabet, 5, tell)
}

// strung tells all bytes of an alphabet up to a length.
func strung(b, alphabet []byte, left int, tell func([]byte)) {
	tell(b)
	if left == 0 {
		return
	}
	for _, c := range alphabet {
		strung(append(slices.Clip(b), c), alphabet, left-1, tell)
	}
}

// lists notes the bytes of all lists that begin as b, up to a length, if they are of the alphabet.
func lists(b, alphabet []byte, left int, good map[string]int) {
	good[string(b)] = 1
	add := func(x []byte) {
		if len(x) <= left && within(x, alphabet) {
			lists(append(slices.Clip(b), x...), alphabet, left-len(x), good)
		}
	}
	counts := []int{}
	for c := range 1 << 14 {
		counts = append(counts, c)
	}
	for _, a := range alphabet { // counts of three bytes, and of four
		for _, b := range alphabet {
			for _, c := range alphabet {
				counts = append(counts, int(a&127)|int(b&127)<<7|int(c&127)<<14)
				for _, d := range alphabet {
					counts = append(counts, int(a&127)|int(b&127)<<7|int(c&127)<<14|int(d&127)<<21)
				}
			}
		}
	}
	if left < 2 {
		return
	}
	slices.Sort(counts)
	for _, c := range slices.Compact(counts) {
		add(append([]byte{1}, count(big.NewInt(int64(c)))...))
	}
	for n := range left - 1 {
		strung(nil, alphabet, n, func(s []byte) {
			if len(s) == n {
				add(append([]byte{2, byte(n)}, s...))
			}
		})
	}
}

// within: are all bytes of the alphabet?
func within(b, alphabet []byte) bool {
	return !slices.ContainsFunc(b, func(c byte) bool { return !slices.Contains(alphabet, c) })
}

// P5.4: what is handed in isn't changed, its spare room neither; answers are new memory.
func TestMemory(t *testing.T) {
	room := []api.Item{num(3), text("abc"), num(9), num(10)}
	kept := slices.Clone(room)
	b, e := pack.Encode(room[:2])
	if e != api.OK || !slices.Equal(room, kept) {
		t.Fatal(room, e)
	}
	again, _ := pack.Encode(room[:2])
	clear(b[:cap(b)])
	if !bytes.Equal(again, spell(room[:2])) {
		t.Error("two answers of Encode share", again)
	}

	in := append(spell(kept[:2]), 1, 77, 1, 78)
	was := bytes.Clone(in)
	n := len(in) - 4
	l, e := pack.Decode(in[:n])
	if e != api.OK || !bytes.Equal(in, was) {
		t.Fatal(in, e)
	}
	other, _ := pack.Decode(in[:n])
	clear(in)
	clear(l[:cap(l)])
	if !slices.Equal(other, kept[:2]) {
		t.Error("Decode's answer shares", other)
	}
}
