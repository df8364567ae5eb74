package world

import "hoard/api"

// How a world stands in its tree:
//
//	the number 0: the greatest number that was ever given
//	a number: what is known of it (a record)
//	a directory's number, and a name: what the name leads to
//	a file's number, and a chunk's: its bytes, but for the noughts at its end; where none are left there is no pair
//
// So one world stands in one way alone, and names stand in their order.

// numberSize: a number takes so many bytes, and leaves room in a key for a name.
const numberSize = api.MaxKey - api.MaxName

// number is a number as a text, in the order of numbers.
func number(n int) string {
	var b [numberSize]byte
	for i := range b {
		b[i] = byte(uint64(n) >> (8 * (numberSize - 1 - i)))
	}
	return string(b[:])
}

// parseNumber is the number of a text; 0: it is that of none that was given.
func parseNumber(s string) int {
	if len(s) != numberSize {
		return 0
	}
	n := 0
	for i := range numberSize {
		n = n<<8 | int(s[i])
	}
	return max(n, 0)
}

// record is what is known of a number, as a text.
func record(x Info) string {
	return string([]byte{byte(x.Kind), byte(x.Size >> 8), byte(x.Size), byte(x.Links)})
}

// parseRecord is what a text tells of a number; Info{}: nothing.
func parseRecord(ino int, s string) Info {
	if len(s) != 4 {
		return Info{}
	}
	x := Info{Ino: ino, Kind: int(s[0]), Size: int(s[1])<<8 | int(s[2]), Links: int(s[3])}
	isFile := x.Kind == file && x.Size <= maxSize && x.Links >= 1 && x.Links <= api.MaxLinks
	if isFile || x == (Info{Ino: ino, Kind: directory, Links: 1}) {
		return x
	}
	return Info{}
}

// nameKey is the key of a name in a directory.
func nameKey(dir int, name string) string { return number(dir) + name }

// chunkKey is the key of a file's chunk.
func chunkKey(ino, chunk int) string { return number(ino) + string([]byte{byte(chunk)}) }
