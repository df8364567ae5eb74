package shell_test

import (
	"math"
	"math/rand"
	"slices"
	"strings"
	"testing"

	"hoard/api"
	"hoard/shell"
	"hoard/step"
)

// P19.1: each kind of line makes its call, with the fields that it names and no others; Line makes the line of that.
func TestParse(t *testing.T) {
	parses(t, "main create /a", "main", step.Call{Kind: step.Create, Path: "/a"})
	parses(t, "main mkdir /a/b", "main", step.Call{Kind: step.Mkdir, Path: "/a/b"})
	parses(t, "0 open /", "0", step.Call{Kind: step.Open, Path: "/"})
	parses(t, "main@s unlink /a", "main@s", step.Call{Kind: step.Unlink, Path: "/a"})
	parses(t, "z9 rmdir /a", "z9", step.Call{Kind: step.Rmdir, Path: "/a"})
	parses(t, "main list /...", "main", step.Call{Kind: step.List, Path: "/..."})
	parses(t, "main stat /-", "main", step.Call{Kind: step.Stat, Path: "/-"})
	parses(t, "main rename /a /b/c", "main", step.Call{Kind: step.Rename, Path: "/a", To: "/b/c"})
	parses(t, "main link /b/c /a", "main", step.Call{Kind: step.Link, Path: "/b/c", To: "/a"})
	parses(t, "main close 3", "main", step.Call{Kind: step.Close, D: 3})
	parses(t, "main close 0", "main", step.Call{Kind: step.Close})
	parses(t, "main read 1 22 333", "main", step.Call{Kind: step.Read, D: 1, Off: 22, N: 333})
	parses(t, "main read 1 0 -5", "main", step.Call{Kind: step.Read, D: 1, N: -5})
	parses(t, "main write 1 22 00ff61", "main", step.Call{Kind: step.Write, D: 1, Off: 22, Data: "\x00\xffa"})
	parses(t, "main write -1 -22 -", "main", step.Call{Kind: step.Write, D: -1, Off: -22})
	parses(t, "main truncate 1 22", "main", step.Call{Kind: step.Truncate, D: 1, N: 22})
	parses(t, "main read 4611686018427387904 -4611686018427387904 0", "main", step.Call{Kind: step.Read, D: 1 << 62, Off: -1 << 62})
	// Names that are other lines' words are names all the same.
	parses(t, "crash list /", "crash", step.Call{Kind: step.List, Path: "/"})
	parses(t, "snapshot mkdir /", "snapshot", step.Call{Kind: step.Mkdir, Path: "/"})
	parses(t, "list list /list", "list", step.Call{Kind: step.List, Path: "/list"})
	// All bytes.
	all, word := "", ""
	for i := range 256 {
		all += string([]byte{byte(i)})
		word += string("0123456789abcdef"[i/16]) + string("0123456789abcdef"[i%16])
	}
	parses(t, "main write 1 0 "+word, "main", step.Call{Kind: step.Write, D: 1, Data: all})
}

// P19.1: every kind of line with good words of all kinds; with too few and too many; with a word that isn't what stands there.
func TestParseKinds(t *testing.T) {
	for _, x := range shapes {
		for which := range 30 {
			line := x.lineOf("main", which)
			set, c, e := take(line)
			want(t, line, e, api.OK)
			parses(t, line, set, c)
		}
		l := strings.Split(x.lineOf("main", 0), " ")
		for i := range l {
			refused(t, strings.Join(l[:i], " "))
			refused(t, strings.Join(slices.Delete(slices.Clone(l), i, i+1), " "))
		}
		for _, more := range []string{"/", "/a", "0", "-", "61", "main", x.name} {
			for i := range len(l) + 1 {
				refused(t, strings.Join(slices.Insert(slices.Clone(l), i, more), " "))
			}
		}
		for i, letter := range x.words {
			for _, s := range bad(letter) {
				m := slices.Clone(l)
				m[2+i] = s
				refused(t, strings.Join(m, " "))
			}
		}
		for _, s := range badNames {
			refused(t, strings.Join(append([]string{s}, l[1:]...), " "))
		}
		for _, s := range []string{strings.ToUpper(x.name), x.name + "s", x.name[1:], "x", "-", "/"} {
			refused(t, strings.Join(append([]string{"main", s}, l[2:]...), " "))
		}
	}
}

// P19.1: one blank stands between words, and none at a line's ends; no other byte is one.
func TestParseBlanks(t *testing.T) {
	for _, x := range shapes {
		line := x.lineOf("main", 0)
		for _, s := range []string{" ", "  ", "\t", "\n", "\r", "\x00", "\v"} {
			refused(t, s+line)
			refused(t, line+s)
		}
		for i := range len(line) {
			if line[i] != ' ' {
				continue
			}
			for _, s := range []string{"", "  ", "   ", "\t", " \t", "\n", "\u00a0", ","} {
				refused(t, line[:i]+s+line[i+1:])
			}
		}
	}
	for _, s := range []string{"", " ", "  ", "main", "main ", " main", "main list", "list /", "main list / ", "main  list /", "x", "\xff", "fsync", "crash 1 0"} {
		refused(t, s)
	}
}

// P19.1: the chapter's second example.
func TestParseExample(t *testing.T) {
	parses(t, "main read 1 0 -5", "main", step.Call{Kind: step.Read, D: 1, N: -5})
	for _, s := range []string{"main read 1 0 05", "main", "Main list /"} {
		refused(t, s)
	}
}

// anyLine is some line, that is a call's or nearly one.
func anyLine(rnd *rand.Rand) string {
	x := anyOf(rnd, shapes)
	l := strings.Split(x.lineOf(anyOf(rnd, []string{"main", "a", "b@c", "12345678@87654321"}), rnd.Intn(100)), " ")
	for range rnd.Intn(3) {
		i := rnd.Intn(len(l))
		switch rnd.Intn(6) {
		case 0:
			l[i] = anyOf(rnd, bad(anyOf(rnd, []rune("pnb"))))
		case 1:
			l[i] = anyOf(rnd, good(anyOf(rnd, []rune("pnb"))))
		case 2:
			l = slices.Insert(l, i, anyOf(rnd, []string{"", "0", "/", "main", "61"}))
		case 3:
			l = slices.Delete(l, i, i+1)
			if len(l) == 0 {
				return ""
			}
		case 4:
			b := []byte(l[i] + "0")
			b[rnd.Intn(len(b))] = byte(rnd.Intn(256))
			l[i] = string(b)
		default:
			j := rnd.Intn(len(l))
			l[i], l[j] = l[j], l[i]
		}
	}
	return strings.Join(l, " ")
}

// P19.1: Parse of any lines, as the document tells what words look like; Line is its inverse.
func TestParseAny(t *testing.T) {
	rnd := rand.New(rand.NewSource(191))
	taken := 0
	for range 60000 {
		line := anyLine(rnd)
		set, c, e := take(line)
		if e != api.OK {
			refused(t, line)
			continue
		}
		taken++
		parses(t, line, set, c)
	}
	if taken < 10000 || taken > 50000 {
		t.Error(taken)
	}
}

// P19.1, P1: what no line tells is refused: kinds, names, paths and numbers that are none, and each field that the kind doesn't name.
func TestNoLine(t *testing.T) {
	for _, x := range shapes {
		c := step.Call{Kind: x.kind}
		for _, letter := range x.words {
			put(letter, map[rune]string{'p': "/a", 'q': "/b", 'd': "1", 'o': "2", 'n': "3", 'b': "61"}[letter], &c)
		}
		if _, e := shell.Line("main", c); e != api.OK {
			t.Fatal(c, e)
		}
		for _, s := range append([]string{"", " ", "main ", " main", "main list", "main main"}, badNames...) {
			noLine(t, s, c)
		}
		for _, letter := range "pqdonb" {
			d := c
			if !strings.ContainsRune(x.words, letter) {
				put(letter, map[rune]string{'p': "/a", 'q': "/", 'd': "-1", 'o': "1", 'n': "4096", 'b': "00"}[letter], &d)
				noLine(t, "main", d)
			}
		}
		for _, kind := range []int{0, -1, 14, 99, -x.kind, math.MinInt, math.MaxInt} {
			d := c
			d.Kind = kind
			noLine(t, "main", d)
		}
	}
	for _, s := range append([]string{"", " ", "/a b", "/a ", " /a", "/a /b", "/a/b 1"}, bad('p')...) {
		for _, x := range shapes {
			if strings.Contains(x.words, "p") {
				noLine(t, "main", step.Call{Kind: x.kind, Path: s})
				noLine(t, "main", step.Call{Kind: x.kind, Path: s, To: "/a"})
			}
			if strings.Contains(x.words, "q") {
				noLine(t, "main", step.Call{Kind: x.kind, Path: "/a", To: s})
			}
		}
	}
	for _, n := range []int{math.MinInt, math.MinInt + 1, -1<<62 - 1, 1<<62 + 1, math.MaxInt - 1, math.MaxInt} {
		for _, kind := range []int{step.Close, step.Read, step.Write, step.Truncate} {
			noLine(t, "main", step.Call{Kind: kind, D: n})
		}
		for _, kind := range []int{step.Read, step.Write} {
			noLine(t, "main", step.Call{Kind: kind, Off: n})
		}
		for _, kind := range []int{step.Read, step.Truncate} {
			noLine(t, "main", step.Call{Kind: kind, N: n})
		}
	}
	noLine(t, "", step.Call{})
	noLine(t, "main", step.Call{})
}

// mayTell: is there a line of a call on a dataset?
func mayTell(set string, c step.Call) bool {
	for _, x := range shapes {
		if x.kind != c.Kind || !names.MatchString(set) {
			continue
		}
		has := func(letter string) bool { return strings.Contains(x.words, letter) }
		number := func(n int) bool { return n >= -1<<62 && n <= 1<<62 }
		return (has("p") && isPath(c.Path) || !has("p") && c.Path == "") && (has("q") && isPath(c.To) || !has("q") && c.To == "") &&
			(has("d") && number(c.D) || c.D == 0) && (has("o") && number(c.Off) || c.Off == 0) && (has("n") && number(c.N) || c.N == 0) &&
			(has("b") || c.Data == "")
	}
	return false
}

// P19.1: Line of any calls; Parse is its inverse.
func TestLineAny(t *testing.T) {
	rnd := rand.New(rand.NewSource(192))
	told := 0
	text := func() string {
		if rnd.Intn(3) > 0 {
			return ""
		}
		return anyOf(rnd, append(good('p'), bad('p')...))
	}
	number := func() int {
		return anyOf(rnd, []int{0, 0, 0, 0, 1, -1, 4096, 1 << 62, -1 << 62, 1<<62 + 1, -1<<62 - 1, math.MaxInt, math.MinInt})
	}
	for range 200000 {
		x := anyOf(rnd, shapes)
		c := step.Call{Kind: x.kind, Path: text(), To: text(), D: number(), Off: number(), N: number()}
		for _, letter := range "pqdon" {
			if !strings.ContainsRune(x.words, letter) && rnd.Intn(20) > 0 {
				put(letter, map[rune]string{'p': "", 'q': "", 'd': "0", 'o': "0", 'n': "0"}[letter], &c)
			}
		}
		if strings.Contains(x.words, "b") || rnd.Intn(20) == 0 {
			c.Data = string([]byte{byte(rnd.Intn(256)), byte(rnd.Intn(256))}[:rnd.Intn(3)])
		}
		set := anyOf(rnd, append([]string{"main", "main", "main", "a@b", ""}, badNames[rnd.Intn(len(badNames))]))
		if !mayTell(set, c) {
			noLine(t, set, c)
			continue
		}
		told++
		line, e := shell.Line(set, c)
		want(t, brief(c), e, api.OK)
		parses(t, line, set, c)
	}
	if told < 10000 {
		t.Error(told)
	}
}

// P19.3: what Parse and Line answer is new memory.
func TestParseShares(t *testing.T) {
	for _, x := range shapes {
		for which := range 20 {
			line := fresh(x.lineOf("main@s", which))
			set, c, e := shell.Parse(line)
			want(t, line, e, api.OK)
			for _, s := range []string{set, c.Path, c.To, c.Data} {
				if shares(s, line) {
					t.Fatalf("%q shares %q", line, s)
				}
			}
			again, e := shell.Line(set, c)
			want(t, line, e, api.OK)
			for _, s := range []string{set, c.Path, c.To, c.Data} {
				if shares(s, again) {
					t.Fatalf("%q shares %q", again, s)
				}
			}
		}
	}
}
