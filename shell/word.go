package shell

import (
	"strconv"
	"strings"

	"hoard/api"
	"hoard/dataset"
	"hoard/world"
)

// blank stands between words.
const blank = " "

// split is a line's words: one at least. (Where two blanks stand together, or one at an end, there is an empty word, which none of any kind is.)
func split(line string) []string { return strings.Split(line, blank) }

// join is the line of some words.
func join(words ...string) string { return strings.Join(words, blank) }

// reply is an error, or ok with words behind it.
func reply(e api.Errno, words ...string) string {
	if e != api.OK {
		return join("error", strconv.Itoa(int(e)))
	}
	return join(append([]string{"ok"}, words...)...)
}

// isName: is it a dataset's name, or a snapshot's?
func isName(s string) bool {
	isSet, isSnap := dataset.Name(s)
	return isSet || isSnap
}

// most is how far numbers go, on both sides of 0.
const most = 1 << 62

// readNumber is the number of a word, if it is one's.
func readNumber(s string) (int, bool) {
	n, err := strconv.Atoi(s)
	// A number is a word in one way alone: that in which it is written.
	if err != nil || n < -most || n > most || strconv.Itoa(n) != s {
		return 0, false
	}
	return n, true
}

// writeNumbers are the words of numbers.
func writeNumbers(numbers ...int) []string {
	var l []string
	for _, n := range numbers {
		l = append(l, strconv.Itoa(n))
	}
	return l
}

// readPath is the path of a word, if it is one's.
func readPath(s string) (string, bool) {
	_, e := world.Names(s)
	return strings.Clone(s), e == api.OK
}

// writePath is the word of a path.
func writePath(s string) string { return s }

// digits are those of base 16.
const digits = "0123456789abcdef"

// noBytes is the word of no bytes.
const noBytes = "-"

// readBytes are the bytes of a word, if it is that of some.
func readBytes(s string) (string, bool) {
	if s == noBytes {
		return "", true
	}
	if s == "" || len(s)%2 != 0 {
		return "", false
	}
	b := make([]byte, 0, len(s)/2)
	for i := 0; i < len(s); i += 2 {
		high, low := strings.IndexByte(digits, s[i]), strings.IndexByte(digits, s[i+1])
		if high < 0 || low < 0 {
			return "", false
		}
		b = append(b, byte(high*len(digits)+low))
	}
	return string(b), true
}

// writeBytes is the word of bytes.
func writeBytes(s string) string {
	if s == "" {
		return noBytes
	}
	b := make([]byte, 0, 2*len(s))
	for i := range len(s) {
		n := int(s[i])
		b = append(b, digits[n/len(digits)], digits[n%len(digits)])
	}
	return string(b)
}
