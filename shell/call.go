package shell

import (
	"slices"
	"strconv"

	"hoard/step"
)

// call is the kind of line of a kind of call: its name there, and functions that read the words behind that, write them, and write those behind the ok of its reply.
type call struct {
	name  string
	kind  int
	read  func(words []string) (step.Call, bool)
	write func(c step.Call) []string
	tell  func(r step.Result) []string
}

// word is a word of such a line: it is read into a field of the call, if it is what stands there, and written of it.
type word struct {
	read  func(s string, c *step.Call) bool
	write func(c step.Call) string
}

// in is the word that says what stands in a field.
func in[T any](field func(c *step.Call) *T, read func(string) (T, bool), write func(T) string) word {
	return word{
		read: func(s string, c *step.Call) bool {
			x, ok := read(s)
			*field(c) = x
			return ok
		},
		write: func(c step.Call) string { return write(*field(&c)) },
	}
}

// calls are all kinds of calls' lines.
func calls() []call {
	path := in(func(c *step.Call) *string { return &c.Path }, readPath, writePath)
	to := in(func(c *step.Call) *string { return &c.To }, readPath, writePath)
	d := in(func(c *step.Call) *int { return &c.D }, readNumber, strconv.Itoa)
	off := in(func(c *step.Call) *int { return &c.Off }, readNumber, strconv.Itoa)
	n := in(func(c *step.Call) *int { return &c.N }, readNumber, strconv.Itoa)
	data := in(func(c *step.Call) *string { return &c.Data }, readBytes, writeBytes)
	return []call{
		lineOf("create", step.Create, tellNumber, path),
		lineOf("mkdir", step.Mkdir, tellNumber, path),
		lineOf("open", step.Open, tellNumber, path),
		lineOf("close", step.Close, tellNothing, d),
		lineOf("read", step.Read, tellBytes, d, off, n),
		lineOf("write", step.Write, tellNothing, d, off, data),
		lineOf("truncate", step.Truncate, tellNothing, d, n),
		lineOf("rename", step.Rename, tellNothing, path, to),
		lineOf("unlink", step.Unlink, tellNothing, path),
		lineOf("rmdir", step.Rmdir, tellNothing, path),
		lineOf("link", step.Link, tellNothing, path, to),
		lineOf("list", step.List, tellNames, path),
		lineOf("stat", step.Stat, tellInfo, path),
	}
}

// lineOf is the kind of line with these words behind its name.
func lineOf(name string, kind int, tell func(r step.Result) []string, words ...word) call {
	read := func(l []string) (step.Call, bool) {
		c := step.Call{Kind: kind}
		if len(l) != len(words) {
			return step.Call{}, false
		}
		for i, w := range words {
			if !w.read(l[i], &c) {
				return step.Call{}, false
			}
		}
		return c, true
	}
	write := func(c step.Call) []string {
		var l []string
		for _, w := range words {
			l = append(l, w.write(c))
		}
		return l
	}
	return call{name, kind, read, write, tell}
}

// What a reply tells of a result.
func tellNothing(step.Result) []string  { return nil }
func tellNumber(r step.Result) []string { return writeNumbers(r.N) }
func tellBytes(r step.Result) []string  { return []string{writeBytes(r.Data)} }
func tellNames(r step.Result) []string  { return r.Names }
func tellInfo(r step.Result) []string {
	return writeNumbers(r.Info.Kind, r.Info.Size, r.Info.Links)
}

// find is the first kind of line that is one.
func find(is func(k call) bool) (call, bool) {
	l := calls()
	i := slices.IndexFunc(l, is)
	if i < 0 {
		return call{}, false
	}
	return l[i], true
}

// ofKind is that of a kind of call.
func ofKind(kind int) (call, bool) {
	return find(func(k call) bool { return k.kind == kind })
}
