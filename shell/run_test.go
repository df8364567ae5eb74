package shell_test

import (
	"fmt"
	"math"
	"slices"
	"strconv"
	"strings"
	"testing"

	"hoard/api"
	"hoard/shell"
)

// P19.2: the chapter's first example, and the script of the second.
func TestRunExamples(t *testing.T) {
	script(t, 5, 500, 40,
		"main mkdir /a", "ok 2", "main create /a/f", "ok 3", "main open /a/f", "ok 1", "main write 1 0 616263", "ok", "main read 1 1 9", "ok 6263",
		"main list /a", "ok f", "main stat /a/f", "ok 1 3 1", "x", "error 2", "crash", "ok", "main list /", "ok")
	script(t, 5, 500, 40, "snapshot main@s", "ok", "lose 0", "ok", "lose 1", "ok", "lose 2", "ok", "main@s list /", "ok")
}

// refuses holds Run to an error.
func refuses(t *testing.T, drives, sectors, logs int, lines []string, must api.Errno) {
	t.Helper()
	if l, e := shell.Run(drives, sectors, logs, lines); len(l) != 0 || e != must {
		t.Fatalf("Run(%d, %d, %d, %d lines): %v, %d, not %d", drives, sectors, logs, len(lines), l, e, must)
	}
}

// P19.2: racks and logs that are refused, ahead of a script that is too long.
func TestRunRefuses(t *testing.T) {
	for _, lines := range [][]string{nil, {"names"}, make([]string, 200), make([]string, 201)} {
		for _, n := range []int{math.MinInt, -1, 0, 1, 4, 17, math.MaxInt} {
			refuses(t, n, 500, 40, lines, api.ErrArg)
		}
		for _, n := range []int{math.MinInt, -1, 0, 1, 399, 400, 439, 2001, math.MaxInt} {
			refuses(t, 5, n, 40, lines, api.ErrArg)
		}
		for _, n := range []int{math.MinInt, -1, 0, 101, 500, 501, math.MaxInt} {
			refuses(t, 5, 500, n, lines, api.ErrArg)
		}
		refuses(t, 5, 2000, 501, lines, api.ErrArg)
	}
	for _, x := range [][3]int{{5, 401, 1}, {5, 440, 40}, {16, 2000, 500}, {5, 900, 500}, {5, 500, 100}} {
		refuses(t, x[0], x[1], x[2], make([]string, 201), api.ErrBig)
		if l := run(t, x[0], x[1], x[2], "names", "main list /", "main create /a", "fsync", "crash", "main list /"); !slices.Equal(l, []string{"ok main", "ok", "ok 2", "ok", "ok", "ok a"}) {
			t.Error(x, l)
		}
	}
}

// P19.2: up to 200 lines, and not one more.
func TestRunLines(t *testing.T) {
	if l, e := shell.Run(5, 500, 40, nil); len(l) != 0 || e != api.OK {
		t.Error(l, e)
	}
	lines := make([]string, 201)
	for i := range lines {
		lines[i] = "main create /" + strconv.Itoa(i)
	}
	l := run(t, 5, 500, 40, lines[:200]...)
	for i, s := range l {
		if s != "ok "+strconv.Itoa(i+2) {
			t.Fatal(lines[i], s)
		}
	}
	refuses(t, 5, 500, 40, lines, api.ErrBig)
	refuses(t, 5, 500, 40, make([]string, 100000), api.ErrBig)
	for _, s := range run(t, 5, 500, 40, make([]string, 200)...) {
		if s != "error 2" {
			t.Fatal(s)
		}
	}
}

// P19.2: calls on datasets and snapshots, with their errors.
func TestRunCalls(t *testing.T) {
	script(t, 6, 600, 30,
		"main create /f", "ok 2", "main create /f", "error 8", "main create /f/g", "error 10", "main create /d/g", "error 7", "main create /", "error 6",
		"main mkdir /d", "ok 3", "main link /f /d/g", "ok", "main link /d /e", "error 9", "main stat /f", "ok 1 0 2", "main stat /d", "ok 2 0 1",
		"main open /d", "error 9", "main open /f", "ok 1", "main open /d/g", "ok 2", "main write 2 3 7a", "ok", "main read 1 0 9", "ok 0000007a",
		"main read 1 4 9", "ok -", "main read 1 -1 9", "error 1", "main read 3 0 9", "error 13", "main read 0 0 9", "error 13", "main write 1 4096 00", "error 14",
		"main write 1 0 -", "ok", "main write 1 -1 00", "error 1", "main write 1 4611686018427387904 00", "error 14", "main truncate 1 2", "ok", "main truncate 1 -1", "error 1",
		"main truncate 1 4097", "error 14", "main truncate 1 4611686018427387904", "error 14", "main read 2 0 4611686018427387904", "ok 0000", "main close 1", "ok", "main close 1", "error 13",
		"main open /f", "ok 1", "main rename /d /d/e", "error 12", "main rename /f /d", "error 9", "main rename /d /f", "error 10", "main rmdir /d", "error 11",
		"main rmdir /f", "error 10", "main rmdir /", "error 6", "main rename /d /e", "ok", "main list /", "ok e f", "main list /f", "error 10",
		"main unlink /e", "error 9", "main unlink /f", "ok", "main stat /e/g", "ok 1 2 1", "main unlink /e/g", "ok", "main read 1 0 1", "error 13",
		"main list /e", "ok", "main rmdir /e", "ok", "main list /", "ok", "no list /", "error 7", "main@s list /", "error 7",
		"snapshot main@s", "ok", "main@s list /", "ok", "main@s create /a", "error 15", "main@s open /a", "error 7", "main@s close 1", "error 13")
}

// P19.2: lines of datasets and snapshots, with their errors; copies from one snapshot, and from one to another.
func TestRunSets(t *testing.T) {
	script(t, 6, 600, 30,
		"names", "ok main", "main create /1", "ok 2", "snapshot main@a", "ok", "main create /2", "ok 3", "snapshot main@b", "ok",
		"snapshot main@a", "error 8", "snapshot no@a", "error 7", "clone main@a c", "ok", "clone main@a c", "error 8", "clone main@no d", "error 7",
		"clone main@a main", "error 8", "names", "ok c main main@a main@b", "c list /", "ok 1", "c create /x", "ok 3",
		"copy main@b d", "ok", "d list /", "ok 1 2", "copy main@b d", "error 8", "copy main@no main", "error 7", "copy main@b main", "error 8",
		"copy main@a main@b e", "ok", "e list /", "ok 1 2", "copy main@b main@a f", "ok", "f list /", "ok 1", "copy main@no main@a main", "error 7",
		"copy main@a main@no main", "error 7", "copy main@a main@b e", "error 8", "f create /3", "ok 3", "e create /3", "ok 4",
		"destroy main@a", "error 15", "destroy e", "ok", "destroy main@a", "error 15", "destroy c", "ok", "destroy main@a", "ok", "destroy main@a", "error 7",
		"destroy main@b", "error 15", "destroy f", "ok", "destroy main@b", "ok", "destroy main", "error 15", "destroy no", "error 7",
		"names", "ok d main", "d list /", "ok 1 2", "snapshot d@1", "ok", "destroy d", "error 15", "destroy d@1", "ok", "destroy d", "ok", "names", "ok main")
}

// P19.2: twelve datasets and snapshots, and not one more; a stream that is too long.
func TestRunLimits(t *testing.T) {
	var told []string
	for i := range 11 {
		told = append(told, "snapshot main@"+strconv.Itoa(i), "ok")
	}
	told = append(told, "snapshot main@z", "error 14", "clone main@0 a", "error 14", "copy main@0 a", "error 14", "copy main@0 main@1 a", "error 14",
		"names", "ok main main@0 main@1 main@10 main@2 main@3 main@4 main@5 main@6 main@7 main@8 main@9", "destroy main@9", "ok", "copy main@0 main@1 a", "ok")
	script(t, 5, 900, 60, told...)

	told = nil
	for i := range 17 {
		path := "/" + strconv.Itoa(i)
		told = append(told, "main create "+path, "ok "+strconv.Itoa(i+2), "main open "+path, "ok 1", "main write 1 0 "+strings.Repeat("5a", 4096), "ok", "main close 1", "ok")
		if i == 8 {
			told = append(told, "snapshot main@a", "ok")
		}
	}
	told = append(told, "snapshot main@b", "ok", "copy main@a a", "ok", "copy main@b b", "error 14", "copy main@a main@b b", "ok", "b stat /16", "ok 1 4096 1")
	script(t, 8, 2000, 60, told...)
}

// P19.2: the lines of the rack.
func TestRunRack(t *testing.T) {
	script(t, 5, 500, 40,
		"lose 0", "ok", "lose 0", "ok", "lose 5", "error 1", "lose -1", "error 1", "lose 4611686018427387904", "error 1",
		"rot 0 1 1", "error 3", "replace 0", "ok", "replace 0", "ok", "replace 5", "error 1", "rot 0 1 1", "ok", "rot 0 1 1", "ok",
		"rot 0 0 -1", "error 1", "rot 5 0 0", "error 1", "rot 0 500 0", "error 1", "rot 0 499 0", "ok", "rot 1 499 4611686018427387904", "ok",
		"arm 0", "ok", "arm -1", "ok", "sync", "ok", "arm 4611686018427387904", "ok", "sync", "ok", "arm 0", "ok", "arm 1", "ok", "arm -4611686018427387904", "ok",
		"sync", "ok", "main create /f", "ok 2", "arm 0", "ok", "fsync", "error 16", "arm -1", "ok", "fsync", "error 16", "main list /", "error 16", "names", "error 16",
		"sync", "error 16", "snapshot main@a", "error 16", "scrub", "error 16", "lose 9", "error 1", "x", "error 2", "crash", "ok", "main list /", "ok",
		"arm 0", "ok", "crash", "ok", "sync", "ok", "main create /f", "ok 2", "fsync", "ok", "crash", "ok", "main list /", "ok f")
}

// P19.2: a crash keeps those writes that are picked: of those of an Fsync that is broken off ahead of its flush.
func TestRunPicks(t *testing.T) {
	lines := func(crash string) []string {
		return []string{"main create /f", "arm 6", "fsync", crash, "main list /"}
	}
	for crash, must := range map[string]string{
		"crash": "ok", "crash 0 0 0 0 0 0": "ok", "crash 2 -2 4": "ok", "crash 1": "ok f", "crash 0 0 0 0 0 1": "ok f", "crash 0 -1": "ok f",
		"crash 0 0 0 0 0 0 1": "ok", "crash 1 1 1 1 1 1": "ok f", "crash 4611686018427387903": "ok f",
	} {
		is := run(t, 6, 500, 40, lines(crash)...)
		if must := []string{"ok 2", "ok", "error 16", "ok", must}; !slices.Equal(is, must) {
			t.Errorf("%s: %q, not %q", crash, is, must)
		}
	}
	// A line that is no crash's leaves all as it is.
	for _, crash := range []string{"crash x", "crash 1 x", "crash 01", "crash -", "crash +1", "crash 1  1", "crash ", "Crash", "crash 4611686018427387905", "crash /", "crash main"} {
		is := run(t, 6, 500, 40, "main create /f", crash, "main list /")
		if must := []string{"ok 2", "error 2", "ok f"}; !slices.Equal(is, must) {
			t.Errorf("%s: %q, not %q", crash, is, must)
		}
	}
}

// P19.2: what a scrub tells: how many blocks it met, were wrong, and are lost.
func TestRunScrub(t *testing.T) {
	told := run(t, 5, 500, 40, "main create /f", "main open /f", "main write 1 0 "+strings.Repeat("61", 3000), "sync", "scrub", "replace 1", "rot 2 100 3", "scrub", "scrub", "sync",
		"lose 0", "lose 3", "lose 4", "scrub", "crash", "main stat /f", "main open /f", "main read 1 2999 9")
	var all, wrong, done int
	if _, err := fmt.Sscanf(told[4], "ok %d 0 0", &all); err != nil || all < 5 {
		t.Error(told[4])
	}
	if _, err := fmt.Sscanf(told[7], "ok %d %d 0", &done, &wrong); err != nil || done != all || wrong < 1 || wrong > all {
		t.Error(told[7])
	}
	whole := fmt.Sprintf("ok %d 0 0", all)
	if told[8] != whole || told[9] != "ok" || told[14] != "ok" || told[15] != "ok 1 3000 1" || told[17] != "ok 61" {
		t.Error(told)
	}
}

// P19.2: lines with too few and too many words, and words that are none, answer error 2, and do nothing.
func TestRunForms(t *testing.T) {
	good := [][]string{
		{"fsync"}, {"sync"}, {"names"}, {"scrub"}, {"snapshot", "main@z"}, {"clone", "main@s", "z"}, {"destroy", "a"}, {"destroy", "main@s"},
		{"copy", "main@s", "z"}, {"copy", "main@s", "main@s", "z"}, {"arm", "0"}, {"lose", "0"}, {"replace", "0"}, {"rot", "0", "0", "0"},
	}
	words := []string{"", "x", "X", "main@s", "main@", "@s", "0", "00", "-0", "+0", "-", "4611686018427387905", "-4611686018427387905", "a@b@c", "123456789", "/", "/a", "0x0", "0 0", "\x00", "é"}
	var bad []string
	add := func(l ...string) {
		if told, _ := newMemory().reply(strings.Join(l, " ")); told == "error 2" && !isRack(l) {
			bad = append(bad, strings.Join(l, " "))
		}
	}
	for _, l := range good {
		for i := range l {
			add(slices.Delete(slices.Clone(l), i, i+1)...)
			for _, s := range words {
				add(slices.Replace(slices.Clone(l), i, i+1, s)...)
			}
		}
		for i := range len(l) + 1 {
			for _, s := range words {
				add(slices.Insert(slices.Clone(l), i, s)...)
			}
		}
		add(strings.ToUpper(strings.Join(l, " ")))
		for _, s := range []string{"\t", "\n", ",", "\u00a0", "  "} {
			if len(l) > 1 {
				add(strings.Join(l, s))
			}
			add(strings.Join(l, " ") + s)
			add(s + strings.Join(l, " "))
		}
	}
	if len(bad) < 1000 {
		t.Fatal(len(bad))
	}
	state := []string{"names", "main list /", "main read 1 0 9"}
	for some := range slices.Chunk(bad, 190) {
		lines := slices.Concat([]string{"main create /f", "main open /f", "main write 1 0 61", "snapshot main@s", "clone main@s a"}, some, state)
		l := run(t, 5, 500, 40, lines...)
		for i, line := range some {
			if l[5+i] != "error 2" {
				t.Errorf("%q: %q", line, l[5+i])
			}
		}
		if is := l[len(l)-3:]; !slices.Equal(is, []string{"ok a main main@s", "ok f", "ok 61"}) {
			t.Errorf("%q", is)
		}
	}
}

// isRack: are words those of a line of the rack, of a crash or a scrub?
func isRack(l []string) bool {
	_, picks := numbersOf(l[min(1, len(l)):])
	switch {
	case len(l) == 0:
		return false
	case l[0] == "scrub":
		return len(l) == 1
	case l[0] == "rot":
		return isOf("NNN", l[1:])
	case l[0] == "crash":
		return picks
	}
	return slices.Contains([]string{"arm", "lose", "replace"}, l[0]) && isOf("N", l[1:])
}

// P19.2: behind a crash that isn't answered ok there is no pool: all that ask it answer error 1, others what they answer, till one is answered ok.
func TestRunNoPool(t *testing.T) {
	asks := []string{
		"main list /", "fsync", "sync", "names", "snapshot main@t", "clone main@s b", "destroy main@s", "destroy main", "copy main@s b", "copy main@s main@s b", "scrub",
		"no create /f", "main@s stat /", "main close 1", "main write 1 0 61", "snapshot no@s",
	}
	// All labels rot: there is no record any longer. What rots twice in this way is as it was.
	var rots []string
	for drive := range 5 {
		for at := range 8 {
			rots = append(rots, fmt.Sprintf("rot %d %d 9", drive, at))
		}
	}
	told := []string{"main create /f", "ok 2", "main open /f", "ok 1", "main write 1 0 " + strings.Repeat("61", 3000), "ok", "snapshot main@s", "ok", "main create /g", "ok 3"}
	all := func(must string, lines ...string) {
		for _, line := range lines {
			told = append(told, line, must)
		}
	}
	all("ok", rots...)
	all("error 7", "crash", "crash 1 1")
	all("error 1", asks...)
	all("ok", "arm 3", "arm -1", "rot 0 20 0", "rot 0 20 0")
	all("error 1", "rot 9 0 0", "lose 7", "replace -1")
	all("error 2", "x", "crash x", "names ", "snapshot main", "")
	all("ok", rots...)
	all("ok", "crash")
	all("ok f", "main list /", "main@s list /")
	all("ok main main@s", "names")
	all("ok", "lose 0", "lose 1", "lose 2", "lose 3")
	all("error 4", "crash", "crash")
	all("error 1", asks...)
	all("ok", "lose 4")
	all("error 7", "crash")
	all("error 1", asks[:3]...)
	all("ok", "replace 0", "replace 1", "replace 2", "replace 3", "replace 4")
	all("error 7", "crash")
	all("error 1", asks[:3]...)
	script(t, 5, 500, 40, told...)
}

// P19.2: scripts with crashes in between: what was made to last is there, what wasn't needn't be, and descriptors aren't.
func TestRunCrashes(t *testing.T) {
	script(t, 5, 500, 40,
		"main create /a", "ok 2", "main open /a", "ok 1", "main write 1 0 61", "ok", "fsync", "ok", "main write 1 1 62", "ok",
		"crash", "ok", "main read 1 0 9", "error 13", "main open /a", "ok 1", "main read 1 0 9", "ok 61", "main write 1 1 63", "ok", "sync", "ok",
		"main unlink /a", "ok", "crash 1 1 1", "ok", "main stat /a", "ok 1 2 1", "main mkdir /d", "ok 3", "snapshot main@s", "ok", "main rmdir /d", "ok",
		"crash", "ok", "main list /", "ok a d", "main@s list /", "ok a d", "clone main@s c", "ok", "c unlink /a", "ok", "fsync", "ok", "crash 0 1", "ok",
		"c list /", "ok d", "main list /", "ok a d", "copy main@s r", "ok", "crash", "ok", "r open /a", "ok 1", "r read 1 0 9", "ok 6163",
		"destroy c", "ok", "crash", "ok", "names", "ok main main@s r", "destroy main@s", "ok", "arm 0", "ok", "destroy r", "error 16", "crash", "ok",
		"names", "ok main r", "lose 0", "ok", "lose 4", "ok", "crash", "ok", "r open /a", "ok 1", "r read 1 0 9", "ok 6163", "crash", "ok", "main list /", "ok a d")
}
