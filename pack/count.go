package pack

// A byte of a count has seven bits of it; more says that others are behind.
const (
	bits = 7
	more = 1 << bits
)

// longest: a count of 64 bits takes so many bytes, and has one bit in the last.
const longest = 10

// fold is the count that tells a number.
func fold(n int) uint64 {
	if n >= 0 {
		return 2 * uint64(n)
	}
	return 2*uint64(-(n+1)) + 1 // -2 n - 1, without the least number's wrap-round
}

// unfold is the number that a count tells.
func unfold(c uint64) int {
	if c%2 == 0 {
		return int(c / 2)
	}
	return -int(c/2) - 1
}

// addCount puts a count behind bytes.
func addCount(b []byte, c uint64) []byte {
	for c >= more {
		b = append(b, more|byte(c))
		c >>= bits
	}
	return append(b, byte(c))
}

// takeCount is the count with which bytes begin, and what is behind it; false of what no count makes.
func takeCount(b []byte) (c uint64, rest []byte, ok bool) {
	for i, x := range b {
		c |= uint64(x&(more-1)) << (bits * i)
		switch {
		case i == longest-1 && x > 1:
			return 0, nil, false // more than 64 bits
		case x == 0 && i > 0:
			return 0, nil, false // a byte more than needed
		case x < more:
			return c, b[i+1:], true
		}
	}
	return 0, nil, false
}
