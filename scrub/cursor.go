package scrub

import (
	"hoard/api"
	"hoard/pack"
)

// number is the kind of pack's items that are numbers.
const number = 1

// end is what a cursor tells where there is no next block: no cell's address comes so far, and no count beyond it.
const end = 1 << 60

// spell is the cursor of a scrub with this next address, that met this. (The drives aren't told.)
func spell(next int, met Report) string {
	var l []api.Item
	for _, n := range []int{next, met.Done, met.Wrong, met.Lost} {
		l = append(l, api.Item{Kind: number, N: n})
	}
	b, _ := pack.Encode(l) // four numbers are never refused
	return string(b)
}

// parse is the next address of a cursor and what it tells to have been met, if a scrub may tell this.
func parse(cursor string) (next int, met Report, ok bool) {
	l, e := pack.Decode([]byte(cursor))
	if e != api.OK || len(l) != 4 {
		return 0, Report{}, false
	}
	for _, x := range l {
		if x.Kind != number {
			return 0, Report{}, false
		}
	}
	met = Report{Done: l[1].N, Wrong: l[2].N, Lost: l[3].N}
	if !counted(met) {
		return 0, Report{}, false
	}
	return l[0].N, met, true
}

// counted: may these be a scrub's counts? No block is both wrong and lost.
func counted(met Report) bool {
	return min(met.Done, met.Wrong, met.Lost) >= 0 && met.Done <= end && met.Lost <= met.Done-met.Wrong
}
