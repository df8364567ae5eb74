package shell_test

import (
	"encoding/hex"
	"math/rand"
	"slices"
	"strconv"
	"strings"
	"testing"

	"hoard/api"
	"hoard/pool"
	"hoard/rack"
	"hoard/shell"
	"hoard/step"
)

// mirror is a rack and a pool that are asked what lines say, as plainly as the chapter tells it.
type mirror struct {
	r    *rack.Rack
	p    *pool.Pool
	logs int
}

// newMirror is one on a new rack.
func newMirror(t *testing.T, drives, sectors, logs int) *mirror {
	t.Helper()
	r, e := rack.New(drives, sectors)
	want(t, "rack.New", e, api.OK)
	p, e := pool.Create(r, logs)
	want(t, "pool.Create", e, api.OK)
	return &mirror{r, p, logs}
}

// call is the reply to a call.
func (m *mirror) call(set string, c step.Call) string {
	r := m.p.Call(set, c)
	switch c.Kind {
	case step.Create, step.Mkdir, step.Open:
		return said(r.Err, r.N)
	case step.Read:
		if r.Data == "" {
			return said(r.Err, "-")
		}
		return said(r.Err, hex.EncodeToString([]byte(r.Data)))
	case step.List:
		return said(r.Err, strings.Join(r.Names, " "))
	case step.Stat:
		return said(r.Err, r.Info.Kind, r.Info.Size, r.Info.Links)
	}
	return said(r.Err)
}

// numbersOf are those of words, if all are.
func numbersOf(l []string) (picks []int, ok bool) {
	for _, s := range l {
		if !isNumber(s) {
			return nil, false
		}
		n, _ := strconv.Atoi(s)
		picks = append(picks, n)
	}
	return picks, true
}

// copies is a copy line.
func (m *mirror) copies(from, to, name string) string {
	b, e := m.p.Send(from, to)
	if e == api.OK {
		e = m.p.Receive(from, name, b)
	}
	return said(e)
}

// scrubs is a scrub line.
func (m *mirror) scrubs() string {
	c, e := m.p.Scrub("")
	for e == api.OK {
		end := false
		if end, e = c.Step(1); end {
			x := c.Report()
			return said(e, x.Done, x.Wrong, x.Lost)
		}
	}
	return said(e)
}

// reply is that to a line.
func (m *mirror) reply(line string) (is string) {
	if set, c, e := take(line); e == api.OK {
		return m.call(set, c)
	}
	l := strings.Split(line, " ")
	word, l := l[0], l[1:]
	n, all := numbersOf(l)
	switch {
	case word == "fsync" && isOf("", l):
		return said(m.p.Fsync())
	case word == "sync" && isOf("", l):
		return said(m.p.Sync())
	case word == "names" && isOf("", l):
		x, e := m.p.List()
		return said(e, strings.Join(x, " "))
	case word == "snapshot" && isOf("S", l):
		return said(m.p.Snapshot(l[0]))
	case word == "clone" && isOf("SA", l):
		return said(m.p.Clone(l[0], l[1]))
	case word == "destroy" && (isOf("A", l) || isOf("S", l)):
		return said(m.p.Destroy(l[0]))
	case word == "copy" && isOf("SA", l):
		return m.copies("", l[0], l[1])
	case word == "copy" && isOf("SSA", l):
		return m.copies(l[0], l[1], l[2])
	case word == "scrub" && isOf("", l):
		return m.scrubs()
	case word == "arm" && isOf("N", l):
		m.r.Arm(n[0])
		return "ok"
	case word == "lose" && isOf("N", l):
		return said(m.r.Lose(n[0]))
	case word == "replace" && isOf("N", l):
		return said(m.r.Replace(n[0]))
	case word == "rot" && isOf("NNN", l):
		return said(m.r.Rot(n[0], n[1], n[2]))
	case word == "crash" && all:
		m.r.Crash(n)
		p, e := pool.Import(m.r, m.logs)
		m.p = p
		return said(e)
	}
	return "error 2"
}

// anyOrder is some line that isn't a call's, or nearly one.
func anyOrder(rnd *rand.Rand) string {
	word := anyOf(rnd, []string{"fsync", "fsync", "sync", "names", "snapshot", "clone", "destroy", "copy", "scrub", "arm", "lose", "replace", "rot", "crash"})
	letters := anyOf(rnd, map[string][]string{
		"fsync": {""}, "sync": {""}, "names": {""}, "snapshot": {"S"}, "clone": {"SA"}, "destroy": {"A", "S"}, "copy": {"SA", "SSA"}, "scrub": {""},
		"arm": {"N"}, "lose": {"D"}, "replace": {"D"}, "rot": {"DPN"}, "crash": {"", "N", "NNNN", "NNNNNNNNNNNNNNNN"},
	}[word])
	l := []string{word}
	for _, letter := range letters {
		switch letter {
		case 'S':
			l = append(l, anyOf(rnd, []string{"main", "main", "a", "b"})+"@"+anyOf(rnd, []string{"x", "y"}))
		case 'A':
			l = append(l, anyOf(rnd, []string{"main", "a", "b", "c"}))
		case 'D':
			l = append(l, strconv.Itoa(rnd.Intn(7)))
		case 'P':
			l = append(l, strconv.Itoa(rnd.Intn(520)))
		default:
			l = append(l, strconv.Itoa(anyOf(rnd, []int{-1, 0, 1, 2, 7, 30, 90, 500, 70000, 1 << 62, -1 << 62})))
		}
	}
	if rnd.Intn(12) == 0 {
		i := rnd.Intn(len(l))
		l[i] = anyOf(rnd, []string{"", "x", "Main", "01", "-0", "+1", "4611686018427387905", "main@", "main@x", "main", "0", l[i] + " " + l[i], strings.ToUpper(l[i])})
	}
	return strings.Join(l, " ")
}

// anyAsk is some line with a call of few datasets and paths.
func anyAsk(rnd *rand.Rand) string {
	x := anyOf(rnd, append(slices.Clone(shapes), shapes[0], shapes[2], shapes[5], shapes[5], shapes[4]))
	l := []string{anyOf(rnd, []string{"main", "main", "main", "main", "a", "b", "main@x", "a@x"}), x.name}
	for _, letter := range x.words {
		switch letter {
		case 'p', 'q':
			l = append(l, anyOf(rnd, []string{"/", "/a", "/a", "/b", "/c", "/a/b", "/a/c", "/b/a", "/b/b/b"}))
		case 'd':
			l = append(l, strconv.Itoa(1+rnd.Intn(rnd.Intn(4)+1)))
		case 'b':
			l = append(l, hex.EncodeToString([]byte(strings.Repeat(anyOf(rnd, []string{"x", "y z"}), rnd.Intn(anyOf(rnd, []int{2, 300, 600}))))))
			if l[len(l)-1] == "" {
				l[len(l)-1] = "-"
			}
		default:
			l = append(l, strconv.Itoa(rnd.Intn(anyOf(rnd, []int{3, 300, 4200}))-1))
		}
	}
	return strings.Join(l, " ")
}

// P19.2, P1: whatever lines are asked, more drives failing than three among them, each is answered as a rack and a pool answer that are asked the same; lines that are none change nothing.
func TestRunMirror(t *testing.T) {
	t.Parallel()
	told, words := map[string]int{}, map[string]int{}
	for seed := range 150 {
		rnd := rand.New(rand.NewSource(int64(seed)))
		drives, sectors, logs := 5+rnd.Intn(3), 480+rnd.Intn(600), 1+rnd.Intn(80)
		m := newMirror(t, drives, sectors, logs)
		lines := make([]string, rnd.Intn(201))
		for i := range lines {
			switch n := rnd.Intn(30); {
			case n < 17:
				lines[i] = anyAsk(rnd)
			case n < 18:
				lines[i] = anyLine(rnd)
			case n < 19:
				lines[i] = anyOf(rnd, []string{"", "x", " ", "main", "main list", "fsync ", " sync", "crash  1", "names names", "\xff\x00"})
			case n < 20 && seed%3 == 0:
				lines[i] = "crash"
			default:
				lines[i] = anyOrder(rnd)
			}
		}
		for i, is := range run(t, drives, sectors, logs, lines...) {
			if must := m.reply(lines[i]); is != must {
				t.Fatalf("seed %d, line %d, %.200q: %.200q, not %.200q", seed, i, lines[i], is, must)
			}
			told[strings.Join(strings.Split(is+" ", " ")[:1], " ")]++
			if strings.HasPrefix(is, "error") {
				told[is]++
			} else {
				words[strings.Split(lines[i], " ")[0]]++
			}
		}
	}
	for _, s := range []string{"ok", "error 1", "error 2", "error 3", "error 7", "error 8", "error 13", "error 15", "error 16"} {
		if told[s] == 0 {
			t.Error("never told:", s)
		}
	}
	for _, s := range []string{"main", "fsync", "sync", "names", "snapshot", "clone", "destroy", "copy", "scrub", "arm", "lose", "replace", "rot", "crash"} {
		if words[s] == 0 {
			t.Error("never done:", s)
		}
	}
}

// P19.2, P19.3: a script that is asked twice is answered the same twice; what is handed in isn't changed, nor its spare room; answers are new memory.
func TestRunTwice(t *testing.T) {
	rnd := rand.New(rand.NewSource(193))
	for range 10 {
		room := make([]string, 200)
		for i := range room {
			room[i] = fresh(anyAsk(rnd))
			if rnd.Intn(3) == 0 {
				room[i] = fresh(anyOrder(rnd))
			}
		}
		was, lines := slices.Clone(room), room[:150]
		one, e := shell.Run(6, 500, 40, lines)
		want(t, "Run", e, api.OK)
		two, e := shell.Run(6, 500, 40, lines)
		want(t, "Run", e, api.OK)
		if !slices.Equal(one, two) || !slices.Equal(room, was) {
			t.Fatal("another answer, or what was handed in is changed")
		}
		for _, s := range one {
			for _, line := range lines {
				if shares(s, line) {
					t.Fatalf("%q shares %q", s, line)
				}
			}
		}
		one[0], two[1] = "x", "y"
		if two[0] == "x" || one[1] == "y" {
			t.Fatal("two answers share memory")
		}
	}
}
