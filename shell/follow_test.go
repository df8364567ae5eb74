package shell_test

import (
	"fmt"
	"math/rand"
	"slices"
	"strconv"
	"strings"
	"testing"

	"hoard/step"
)

// course is a way in which a script may have gone: what the datasets are, and what they were behind each line from the last one on that made all last.
type course struct {
	now  *memory
	past []*memory
	off  bool // the power went off
	full bool // there may be no room
}

// follow holds a script's replies to what the document asks: without crashes those of files in memory; behind a crash those of what was behind one of the lines, none ahead of the last that made all last. No more than three drives may fail in it at a time.
func follow(t *testing.T, lines, told []string, full bool) {
	t.Helper()
	ways := []*course{newCourse(newMemory(), full)}
	armed := false
	for i, line := range lines {
		is, word := told[i], strings.Split(line, " ")[0]
		if word == "arm" && is == "ok" {
			armed = !strings.HasPrefix(line, "arm -")
		}
		var next []*course
		for _, w := range ways {
			next = append(next, w.goes(line, is, armed)...)
		}
		if len(next) == 0 {
			t.Fatalf("line %d of %d, %.200q: %.200q\n%s", i, len(lines), line, is, strings.Join(expected(ways, line), "\n"))
		}
		armed = armed && !isCrash(line)
		ways = few(next)
	}
}

// newCourse is one that begins with what lasts.
func newCourse(m *memory, full bool) *course {
	return &course{now: m, past: []*memory{m.copy()}, full: full}
}

// expected are the replies to a line that might have been.
func expected(ways []*course, line string) []string {
	var l []string
	for _, w := range ways {
		s, _ := w.now.reply(line)
		l = append(l, fmt.Sprintf("%.200q", s))
	}
	slices.Sort(l)
	return slices.Compact(l)
}

// few are the same courses without those that are as another one.
func few(l []*course) []*course {
	seen := map[string]bool{}
	return slices.DeleteFunc(l, func(w *course) bool {
		// Behind a crash alone there are two with one past.
		if len(w.past) != 1 {
			return false
		}
		v := w.now.view()
		was := seen[v]
		seen[v] = true
		return was
	})
}

// isCrash: is a line a crash?
func isCrash(line string) bool {
	l := strings.Split(line, " ")
	_, ok := numbersOf(l[1:])
	return l[0] == "crash" && ok
}

// goes is how a course may go on by a line with its reply. (None: it can't.)
func (w *course) goes(line, is string, armed bool) []*course {
	l := strings.Split(line, " ")
	switch {
	case isCrash(line):
		if is != "ok" {
			return nil
		}
		var next []*course
		for _, m := range w.past {
			next = append(next, newCourse(m.copy(), w.full))
		}
		return next
	case l[0] == "scrub" && len(l) == 1:
		lost := strings.HasPrefix(is, "ok ") && !strings.HasSuffix(is, " 0")
		if lost || !strings.HasPrefix(is, "ok ") && !(is == "error 16" && armed) {
			return nil
		}
		w.off = w.off || is == "error 16"
		return []*course{w}
	case isRack(l):
		return []*course{w} // it is held against a mirror elsewhere
	case is == "error 16" && armed:
		if !w.off {
			broken := w.now.copy()
			broken.reply(line)
			w.past = append(w.past, broken)
		}
		w.off = true
		return []*course{w}
	}
	if w.full && lacks(line, is) {
		return []*course{w}
	}
	must, lasts := w.now.reply(line)
	// What reaches no drive may be answered without power.
	if is != must || lasts && w.off {
		return nil
	}
	if w.off {
		return []*course{w}
	}
	if lasts {
		w.past = nil
	}
	if _, c, e := take(line); lasts || e == 0 && (c.Kind < step.Open || c.Kind > step.Read) && c.Kind < step.List {
		w.past = append(w.past, w.now.copy())
	}
	return []*course{w}
}

// lacks: may a line be refused for want of room, or as too much for a stream? Nothing is changed then.
func lacks(line, is string) bool {
	l := strings.Split(line, " ")
	_, c, e := take(line)
	switch {
	case is == "error 14":
		return l[0] == "copy"
	case is != "error 5":
		return false
	case e == 0:
		return (c.Kind < step.Open || c.Kind > step.Read) && c.Kind < step.List
	}
	return l[0] == "snapshot" || l[0] == "clone" || l[0] == "copy" || l[0] == "destroy"
}

// plot makes the lines of a script.
type plot struct {
	rnd     *rand.Rand
	drives  int
	sectors int
	lines   []string
	bad     map[int]bool // the drives that failed
	gone    map[int]bool
	armed   bool
}

// newPlot is one of no lines yet.
func newPlot(seed, drives, sectors int) *plot {
	return &plot{rnd: rand.New(rand.NewSource(int64(seed))), drives: drives, sectors: sectors, bad: map[int]bool{}, gone: map[int]bool{}}
}

// add adds lines.
func (p *plot) add(l ...string) { p.lines = append(p.lines, l...) }

// change is a line of the datasets and snapshots.
func (p *plot) change() {
	snap := func() string { return anyOf(p.rnd, []string{"main@x", "main@x", "main@y", "a@x", "b@x"}) }
	set := func() string { return anyOf(p.rnd, []string{"a", "b", "c", "main"}) }
	switch p.rnd.Intn(9) {
	case 0, 1, 2:
		p.add("snapshot " + snap())
	case 3, 4:
		p.add("clone " + snap() + " " + set())
	case 5:
		p.add("destroy " + anyOf(p.rnd, []string{snap(), set()}))
	case 6:
		p.add("copy " + snap() + " " + set())
	case 7:
		p.add("copy " + snap() + " " + snap() + " " + set())
	default:
		p.add("names")
	}
}

// breaks makes a drive fail, if no more than two others have.
func (p *plot) breaks() {
	d := p.rnd.Intn(p.drives)
	if !p.bad[d] && len(p.bad) == 3 {
		return
	}
	p.bad[d] = true
	switch p.rnd.Intn(3) {
	case 0:
		p.gone[d] = true
		p.add("lose " + strconv.Itoa(d))
	case 1:
		delete(p.gone, d)
		p.add("replace " + strconv.Itoa(d))
	default:
		for range 1 + p.rnd.Intn(6) {
			p.add(fmt.Sprintf("rot %d %d %d", d, anyOf(p.rnd, []int{p.rnd.Intn(8), p.rnd.Intn(60), p.rnd.Intn(p.sectors)}), p.rnd.Intn(1<<20)))
		}
	}
}

// mend puts new drives in the place of those that are gone; behind a scrub and a transaction none has failed.
func (p *plot) mend() {
	for d := range p.drives {
		if p.gone[d] {
			p.add("replace " + strconv.Itoa(d))
		}
	}
	p.gone = map[int]bool{}
	p.add("scrub", "sync")
	if !p.armed {
		p.bad = map[int]bool{}
	}
}

// crash is a crash with any picks.
func (p *plot) crash() {
	line, way := "crash", p.rnd.Intn(3)
	for range p.rnd.Intn(40) {
		line += " " + strconv.Itoa([]int{1, p.rnd.Intn(2), p.rnd.Intn(5) - 2}[way])
	}
	p.add(line)
	p.armed = false
}

// look looks at all that is there, or may be.
func (p *plot) look() {
	p.add("names", "a list /", "b list /", "main@x list /a")
	for _, s := range []string{"list /", "list /a", "stat /a", "stat /b", "stat /c", "stat /a/b", "stat /a/c"} {
		p.add("main " + s)
	}
	for _, s := range []string{"/a", "/b", "/c", "/a/b", "/a/c", "/b/a"} {
		p.add("main open "+s, "main read 1 0 5000", "main close 1")
	}
}

// holds runs the script, and follows it.
func (p *plot) holds(t *testing.T, logs int) {
	t.Helper()
	p.lines = p.lines[:min(len(p.lines), 200)]
	follow(t, p.lines, run(t, p.drives, p.sectors, logs, p.lines...), false)
}

// fills writes a file of a dataset anew, or makes some room.
func (p *plot) fills() {
	set, path := anyOf(p.rnd, []string{"main", "main", "a"}), "/"+strconv.Itoa(p.rnd.Intn(50))
	if p.rnd.Intn(6) == 0 {
		p.add(set + " unlink " + path)
		return
	}
	data := fmt.Sprintf("%02x", p.rnd.Intn(256))
	p.add(set+" create "+path, set+" open "+path, set+" write 1 0 "+strings.Repeat(data, 4096), set+" close 1")
}

// P2, P3, P19.2: with little room, what there is no room for changes nothing; behind crashes all is as it was behind one of the lines.
func TestFollowSmall(t *testing.T) {
	t.Parallel()
	none := 0
	for seed := range 60 {
		logs := 1 + seed%40
		p := newPlot(seed, 5, 400+logs)
		for len(p.lines) < 200 {
			switch n := p.rnd.Intn(30); {
			case n < 22:
				p.fills()
			case n < 25:
				p.add(anyOf(p.rnd, []string{"fsync", "sync", "fsync"}))
			case n < 26 && seed%2 == 0:
				p.add("arm " + strconv.Itoa(p.rnd.Intn(300)))
				p.fills()
				p.change()
				p.crash()
				p.add("names", "main list /", "a list /", "main open /1", "main read 1 0 5000", "a open /2", "a read 1 0 5000")
			default:
				p.change()
			}
		}
		told := run(t, p.drives, p.sectors, logs, p.lines[:200]...)
		follow(t, p.lines[:200], told, true)
		for _, is := range told {
			if is == "error 5" {
				none++
			}
		}
	}
	if none == 0 {
		t.Error("there was room always")
	}
}

// P2, P5, P19.2: without crashes and failing drives all lines are answered as by files in memory; snapshots never change, clones begin as they, what is copied is the same.
func TestFollow(t *testing.T) {
	t.Parallel()
	for seed := range 100 {
		p := newPlot(seed, 5+seed%4, 1500)
		for len(p.lines) < 200 {
			switch n := p.rnd.Intn(20); {
			case n < 14:
				p.add(anyAsk(p.rnd))
			case n < 15:
				p.add(anyOf(p.rnd, []string{"fsync", "sync", "fsync", "x"}))
			default:
				p.change()
			}
		}
		p.holds(t, 1+seed*seed%200)
	}
}

// P2, P4, P19.2: up to three drives that are lost, replaced or rotten at a time change no answer; behind new drives, a scrub and a Sync others may fail.
func TestFollowDrives(t *testing.T) {
	t.Parallel()
	for seed := range 100 {
		p := newPlot(seed, 5+seed%4, 1500)
		for len(p.lines) < 200 {
			switch n := p.rnd.Intn(30); {
			case n < 18:
				p.add(anyAsk(p.rnd))
			case n < 20:
				p.add(anyOf(p.rnd, []string{"fsync", "sync", "fsync", "scrub"}))
			case n < 23:
				p.breaks()
			case n < 25:
				p.mend()
			default:
				p.change()
			}
		}
		p.holds(t, 1+seed*seed%200)
	}
}

// P3, P4, P19.2: behind crashes with any picks, at any write, with drives that fail or without, the datasets are as they were behind one of the lines, none ahead of the last that made all last.
func TestFollowCrashes(t *testing.T) {
	t.Parallel()
	for seed := range 300 {
		p := newPlot(seed, 5+seed%3, 1500)
		for len(p.lines) < 200 {
			switch n := p.rnd.Intn(40); {
			case n < 22:
				p.add(anyAsk(p.rnd))
			case n < 27:
				p.add(anyOf(p.rnd, []string{"fsync", "sync", "fsync", "scrub"}))
			case n < 29 && seed%2 == 0:
				p.breaks()
			case n < 30 && seed%2 == 0:
				p.mend()
			case n < 31:
				p.armed = true
				p.add("arm " + strconv.Itoa(p.rnd.Intn(anyOf(p.rnd, []int{4, 40, 200}))))
				for range p.rnd.Intn(6) {
					p.add(anyOf(p.rnd, []string{anyAsk(p.rnd), "fsync"}))
				}
				p.change()
				p.crash()
				p.look()
			case n < 32:
				p.crash()
				p.look()
			default:
				p.change()
			}
		}
		p.holds(t, 1+seed*5%200)
	}
}

// picksFor are picks of some kind, for all writes that may wait.
func picksFor(kind int, rnd *rand.Rand) string {
	var b strings.Builder
	for i := range 200 {
		n := 0
		switch kind {
		case 1:
			n = 1
		case 2:
			n = i % 2
		case 3:
			n = (i + 1) % 2
		case 4:
			n = rnd.Intn(2)
		case 5:
			n = rnd.Intn(12) / 11 // few
		}
		fmt.Fprint(&b, " ", n)
	}
	return strings.TrimSuffix("crash"+b.String(), strings.Repeat(" 0", 200))
}

// P3, P19.2: a crash at every write and flush of some lines, with picks of several kinds; then other drives fail, and there is another crash: what was seen behind the first one is there still.
func TestFollowEverywhere(t *testing.T) {
	t.Parallel()
	acts := []string{
		"main create /a", "fsync", "main open /a", "main write 1 0 " + strings.Repeat("61", 700), "fsync", "main mkdir /b", "snapshot main@x", "main unlink /a",
		"main create /b/a", "sync", "clone main@x a", "a create /b/c", "fsync", "copy main@x b", "destroy b", "destroy a", "destroy main@x", "main create /c", "fsync",
	}
	for n, whole := 0, false; !whole; n++ {
		for kind := range 6 {
			p := newPlot(6*n+kind, 6, 480)
			p.add("arm " + strconv.Itoa(n))
			p.add(acts...)
			p.add(picksFor(kind, p.rnd), "names", "main list /", "main list /b", "a list /b", "main@x list /", "main open /a", "main read 1 0 5000")
			for i, d := range p.rnd.Perm(6)[:3] {
				p.add([]string{"lose ", "replace "}[(n+i)%2] + strconv.Itoa(d))
			}
			p.add(picksFor(4, p.rnd))
			p.look()
			told := run(t, 6, 480, 12, p.lines...)
			follow(t, p.lines, told, false)
			whole = told[len(acts)] == "ok"
		}
	}
}
