package world

import "hoard/api"

// survey is what the pairs of a tree tell of a world.
type survey struct {
	last  int           // the greatest number that was given
	infos map[int]Info  // of each number
	below map[int][]int // of each directory: what the names in it lead to
	names map[int]int   // of each number: how many names lead to it
}

// isWorld: do pairs (at least one) stand as they would be put, by whatever calls?
func isWorld(l []api.Pair) bool {
	if l[0].Key != number(0) {
		return false
	}
	s := &survey{parseNumber(l[0].Val), map[int]Info{}, map[int][]int{}, map[int]int{}}
	for _, p := range l[1:] {
		if !s.add(p) {
			return false
		}
	}
	return s.named() && s.reached()
}

// add notes a pair; false: none has this form.
func (s *survey) add(p api.Pair) bool {
	if len(p.Key) < numberSize {
		return false
	}
	ino, rest := parseNumber(p.Key[:numberSize]), p.Key[numberSize:]
	if ino < top || ino > s.last {
		return false
	}
	if rest == "" {
		s.infos[ino] = parseRecord(ino, p.Val)
		return s.infos[ino] != Info{}
	}
	// The record is the first of a number's pairs.
	switch x := s.infos[ino]; x.Kind {
	case file:
		return isChunk(x, rest, p.Val)
	case directory:
		to := parseNumber(p.Val)
		s.below[ino] = append(s.below[ino], to)
		s.names[to]++
		return isName(rest)
	}
	return false
}

// named: has everything as many names as it tells, and the root directory none, and do all names lead to something?
func (s *survey) named() bool {
	for ino, x := range s.infos {
		if ino != top && s.names[ino] != x.Links {
			return false
		}
	}
	return s.infos[top].Kind == directory && s.names[top] == 0 && len(s.names) == len(s.infos)-1
}

// reached: are all directories below the root, and no path too long? (Each has one name alone, so that none is met twice.)
func (s *survey) reached() bool {
	met := 0
	level := []int{top}
	for depth := 0; len(level) > 0; depth++ {
		var next []int
		for _, ino := range level {
			if depth == api.MaxDepth && len(s.below[ino]) > 0 {
				return false
			}
			next = append(next, s.dirs(ino)...)
		}
		met += len(level)
		level = next
	}
	all := 0
	for _, x := range s.infos {
		if x.Kind == directory {
			all++
		}
	}
	return met == all
}

// dirs are the directories in one.
func (s *survey) dirs(ino int) []int {
	var l []int
	for _, to := range s.below[ino] {
		if s.infos[to].Kind == directory {
			l = append(l, to)
		}
	}
	return l
}
