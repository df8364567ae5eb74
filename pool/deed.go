package pool

import (
	"strconv"
	"strings"

	"hoard/api"
	"hoard/step"
	"hoard/world"
)

// An intent is words with a blank between: the dataset, the call's kind, and what this asks for. No path has a blank; data, which may, stands last.
const blank = " "

// The kinds of what is in a world.
const (
	file      = 1
	directory = 2
)

// spell is a deed as an intent.
func spell(set string, x step.Deed) string {
	return strings.Join(append([]string{set, strconv.Itoa(x.Call.Kind)}, asked(x)...), blank)
}

// asked is what a deed's kind asks for.
func asked(x step.Deed) []string {
	c := x.Call
	switch c.Kind {
	case step.Write:
		return []string{strconv.Itoa(x.Ino), strconv.Itoa(c.Off), c.Data}
	case step.Truncate:
		return []string{strconv.Itoa(x.Ino), strconv.Itoa(c.N)}
	case step.Rename, step.Link:
		return []string{c.Path, c.To}
	}
	return []string{c.Path}
}

// parse is the dataset and the deed of an intent, if it is one's.
func parse(s string) (set string, x step.Deed, ok bool) {
	l := append(strings.SplitN(s, blank, 5), "", "", "", "")
	set = l[0]
	x.Call.Kind = number(l[1])
	switch x.Call.Kind {
	case step.Write:
		x.Ino, x.Call.Off, x.Call.Data = number(l[2]), number(l[3]), l[4]
	case step.Truncate:
		x.Ino, x.Call.N = number(l[2]), number(l[3])
	case step.Rename, step.Link:
		x.Call.Path, x.Call.To = l[2], l[3]
	default:
		x.Call.Path = l[2]
	}
	// What would be told otherwise is none: numbers that are none among them.
	return set, x, spell(set, x) == s
}

// number is that of a word; of a word that is no number it is 0.
func number(s string) int {
	n, err := strconv.Atoi(s)
	if err != nil {
		return 0
	}
	return n
}

// redo does a deed anew.
func redo(w *world.World, x step.Deed) api.Errno {
	c := x.Call
	switch c.Kind {
	case step.Create:
		_, e := w.Make(c.Path, file)
		return e
	case step.Mkdir:
		_, e := w.Make(c.Path, directory)
		return e
	case step.Write:
		return w.Write(x.Ino, c.Off, c.Data)
	case step.Truncate:
		return w.Truncate(x.Ino, c.N)
	case step.Rename:
		return w.Rename(c.Path, c.To)
	case step.Unlink:
		return w.Unlink(c.Path)
	case step.Rmdir:
		return w.Rmdir(c.Path)
	case step.Link:
		return w.Link(c.Path, c.To)
	}
	return api.ErrForm
}
