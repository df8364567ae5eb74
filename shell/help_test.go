package shell_test

import (
	"encoding/hex"
	"fmt"
	"math/big"
	"math/rand"
	"regexp"
	"strconv"
	"strings"
	"testing"
	"unsafe"

	"hoard/api"
	"hoard/shell"
	"hoard/step"
)

// want holds an error against the one that must be.
func want(t *testing.T, what string, got, must api.Errno) {
	t.Helper()
	if got != must {
		t.Fatalf("%.200q: error %d, not %d", what, got, must)
	}
}

// run is what lines answer on a rack that isn't refused.
func run(t *testing.T, drives, sectors, logs int, lines ...string) []string {
	t.Helper()
	l, e := shell.Run(drives, sectors, logs, lines)
	want(t, "Run", e, api.OK)
	if len(l) != len(lines) {
		t.Fatalf("%d replies, not %d", len(l), len(lines))
	}
	return l
}

// script holds lines to their replies, each of which stands behind its line.
func script(t *testing.T, drives, sectors, logs int, told ...string) {
	t.Helper()
	var lines []string
	for i := 0; i < len(told); i += 2 {
		lines = append(lines, told[i])
	}
	for i, is := range run(t, drives, sectors, logs, lines...) {
		if is != told[2*i+1] {
			t.Errorf("line %d, %.100q: %.100q, not %.100q", i, lines[i], is, told[2*i+1])
		}
	}
	if t.Failed() {
		t.FailNow()
	}
}

// shape is a call's line, as the chapter's table tells it: a letter for each word behind its name: p, q: the paths Path and To; d, o, n: the numbers D, Off and N; b: the bytes Data.
type shape struct {
	name  string
	kind  int
	words string
}

// shapes are all of them.
var shapes = []shape{
	{"create", 1, "p"}, {"mkdir", 2, "p"}, {"open", 3, "p"}, {"close", 4, "d"}, {"read", 5, "don"}, {"write", 6, "dob"}, {"truncate", 7, "dn"},
	{"rename", 8, "pq"}, {"unlink", 9, "p"}, {"rmdir", 10, "p"}, {"link", 11, "pq"}, {"list", 12, "p"}, {"stat", 13, "p"},
}

// What words look like, as the document tells them.
var (
	names   = regexp.MustCompile(`\A[a-z0-9]{1,8}(@[a-z0-9]{1,8})?\z`)
	numbers = regexp.MustCompile(`\A(0|-?[1-9][0-9]*)\z`)
	paths   = regexp.MustCompile(`\A(/|(/[\x21-\x2e\x30-\x7e]{1,16}){1,8})\z`)
	dots    = regexp.MustCompile(`/\.\.?(/|\z)`)
	hexes   = regexp.MustCompile(`\A(-|([0-9a-f][0-9a-f])+)\z`)
)

// isNumber: is a word a number?
func isNumber(s string) bool {
	n, ok := new(big.Int).SetString(s, 10)
	return ok && numbers.MatchString(s) && n.CmpAbs(new(big.Int).Lsh(big.NewInt(1), 62)) <= 0
}

// isPath: is a word a path?
func isPath(s string) bool { return paths.MatchString(s) && !dots.MatchString(s) }

// isWord: is a word what a letter of a shape says?
func isWord(letter rune, s string) bool {
	switch letter {
	case 'p', 'q':
		return isPath(s)
	case 'd', 'o', 'n':
		return isNumber(s)
	}
	return hexes.MatchString(s)
}

// put puts what a word says into a call.
func put(letter rune, s string, c *step.Call) {
	n, _ := strconv.Atoi(s)
	switch letter {
	case 'p':
		c.Path = s
	case 'q':
		c.To = s
	case 'd':
		c.D = n
	case 'o':
		c.Off = n
	case 'n':
		c.N = n
	default:
		b, _ := hex.DecodeString(strings.TrimPrefix(s, "-"))
		c.Data = string(b)
	}
}

// take is what Parse must make of a line, as plainly as the chapter tells it.
func take(line string) (string, step.Call, api.Errno) {
	l := strings.Split(line, " ")
	for _, x := range shapes {
		if len(l) != 2+len(x.words) || l[1] != x.name || !names.MatchString(l[0]) {
			continue
		}
		c := step.Call{Kind: x.kind}
		for i, letter := range x.words {
			if !isWord(letter, l[2+i]) {
				return "", step.Call{}, api.ErrForm
			}
			put(letter, l[2+i], &c)
		}
		return l[0], c, api.OK
	}
	return "", step.Call{}, api.ErrForm
}

// parses holds Parse to what must be, and Line to be its inverse.
func parses(t *testing.T, line, set string, c step.Call) {
	t.Helper()
	s, x, e := shell.Parse(line)
	if s != set || x != c || e != api.OK {
		t.Fatalf("Parse(%.200q): %q, %.200v, %d, not %q, %.200v", line, s, x, e, set, c)
	}
	l, e := shell.Line(set, c)
	if l != line || e != api.OK {
		t.Fatalf("Line(%q, %.200v): %.200q, %d, not %.200q", set, c, l, e, line)
	}
}

// refused wants a line to be no call's.
func refused(t *testing.T, line string) {
	t.Helper()
	if s, x, e := shell.Parse(line); s != "" || x != (step.Call{}) || e != api.ErrForm {
		t.Fatalf("Parse(%.200q): %q, %.200v, %d", line, s, x, e)
	}
}

// noLine wants no line to tell a call.
func noLine(t *testing.T, set string, c step.Call) {
	t.Helper()
	if l, e := shell.Line(set, c); l != "" || e != api.ErrForm {
		t.Fatalf("Line(%q, %.200v): %.200q, %d", set, c, l, e)
	}
}

// good are words of each letter.
func good(letter rune) []string {
	switch letter {
	case 'p', 'q':
		return []string{"/", "/a", "/a/b", "/.a", "/...", "/!~", "/" + strings.Repeat("n", 16), strings.Repeat("/n", 8), strings.Repeat("/"+strings.Repeat("x", 16), 8), "/05", "/-"}
	case 'd', 'o', 'n':
		return []string{"0", "1", "-1", "10", "-10", "4096", "4611686018427387904", "-4611686018427387904", "4611686018427387903"}
	}
	return []string{"-", "00", "ff", "0a", "616263", "09af", strings.Repeat("7f", 5000)}
}

// bad are words that none of a letter is.
func bad(letter rune) []string {
	switch letter {
	case 'p', 'q':
		return []string{"a", "a/b", "-", "0", "//", "/a/", "/a//b", "/.", "/..", "/a/.", "/../a", "/a\x00", "/\x1f", "/\x7f", "/\x80", "/é", "/a\tb", "/" + strings.Repeat("n", 17), strings.Repeat("/n", 9), "\\a", "main@s"}
	case 'd', 'o', 'n':
		return []string{"-", "+", "+1", "-0", "00", "01", "05", "-05", "--1", "1-", "1.0", "1e3", "0x1", "1_0", "a", "/", "4611686018427387905", "-4611686018427387905", "9223372036854775807", "9223372036854775808", "-9223372036854775808", "99999999999999999999999", "\x001", "1\t", "١", "½"}
	}
	return []string{"0", "616", "6g", "AB", "Ff", "fF", "--", "-0", "-00", "0-", "zz", "0x", "6 ", "é", "/", "+1", "\x00\x00"}
}

// badNames are words that are neither a dataset's name nor a snapshot's.
var badNames = []string{"Main", "main@", "@s", "@", "main@s@t", "main@S", "ma-in", "main/", "/main", "123456789", "main@123456789", "123456789@a", "-", "é", "a\x00", "a\t", "a.b"}

// lineOf is a line of the words of a shape, each its which-th good one.
func (x shape) lineOf(set string, which int) string {
	l := []string{set, x.name}
	for i, letter := range x.words {
		w := good(letter)
		l = append(l, w[(which+i)%len(w)])
	}
	return strings.Join(l, " ")
}

// shares: do two texts share memory?
func shares(a, b string) bool {
	if a == "" || b == "" {
		return false
	}
	p, q := uintptr(unsafe.Pointer(unsafe.StringData(a))), uintptr(unsafe.Pointer(unsafe.StringData(b)))
	return p < q+uintptr(len(b)) && q < p+uintptr(len(a))
}

// fresh is a copy of a text in memory of its own.
func fresh(s string) string { return string([]byte(s)) }

// brief tells something in a few words.
func brief(x any) string {
	s := fmt.Sprintf("%q", fmt.Sprint(x))
	return s[:min(len(s), 300)]
}

// anyOf is one of a list.
func anyOf[T any](rnd *rand.Rand, l []T) T { return l[rnd.Intn(len(l))] }
