package store

import "sync/atomic"

// Counts says how often a store was asked for blocks, how many of these it remembered, read and healed, and how many blocks it wrote.
type Counts struct {
	Gets, Hits, Reads, Heals, Puts int
}

// tally is what is counted, in numbers that may be told while others add to them. (The Gets are the hits and the reads, so that these always fit.)
type tally struct {
	hits, reads, heals, puts atomic.Int64
}

// hit: the memory had a block.
func (t *tally) hit() { t.hits.Add(1) }

// read: the array had a block, with drives left out or not.
func (t *tally) read(healed bool) {
	t.reads.Add(1)
	if healed {
		t.heals.Add(1)
	}
}

// put: a block was written.
func (t *tally) put() { t.puts.Add(1) }

// told is what was counted.
func (t *tally) told() Counts {
	heals := int(t.heals.Load()) // ahead of the reads, among which they were counted first: so there are never fewer reads
	hits, reads, puts := int(t.hits.Load()), int(t.reads.Load()), int(t.puts.Load())
	return Counts{Gets: hits + reads, Hits: hits, Reads: reads, Heals: heals, Puts: puts}
}

// Counts: what was counted.
func (s *Store) Counts() Counts {
	if s == nil {
		return Counts{}
	}
	return s.tally.told()
}
