package pool

import (
	"hoard/api"
	"hoard/dataset"
	"hoard/scrub"
)

// Scrub: a scrub of all blocks.
func (p *Pool) Scrub(cursor string) (*scrub.Scrub, api.Errno) {
	if e := p.ready(); e != api.OK {
		return nil, e
	}
	blocks, e := dataset.Reach(p.store, p.root)
	if e != api.OK {
		return nil, e
	}
	var c *scrub.Scrub
	if cursor == "" {
		c, e = scrub.New(p.store, blocks)
	} else {
		c, e = scrub.Resume(p.store, blocks, cursor)
	}
	if e != api.OK {
		return nil, e
	}
	p.scrubs = append(p.under(), c)
	return c, api.OK
}

// under are the scrubs that aren't at their end.
func (p *Pool) under() []*scrub.Scrub {
	var l []*scrub.Scrub
	for _, c := range p.scrubs {
		if end, e := c.Step(0); !end && e == api.OK {
			l = append(l, c)
		}
	}
	return l
}

// aim has all scrubs that aren't at their end go on with the blocks that are needed now: one that mended a block which was given back would write over those that took its place.
func (p *Pool) aim() {
	p.scrubs = p.under()
	if len(p.scrubs) == 0 {
		return
	}
	blocks, e := dataset.Reach(p.store, p.root)
	for _, c := range p.scrubs {
		next, f := scrub.Resume(p.store, blocks, c.Cursor())
		if e != api.OK || f != api.OK {
			next = &scrub.Scrub{}
		}
		*c = *next
	}
}
