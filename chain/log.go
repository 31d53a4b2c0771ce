package chain

import (
	"commonhold/api"
	"commonhold/layout"
	"commonhold/unit"
)

// log: what all who share it have in common.
type log struct {
	layout api.Layout // of the log's epoch
	units  [api.MaxUnits]unit.Unit
	count  int // the position that is given next
}

// open: a log at its beginning.
func open(l api.Layout) *log {
	g := &log{layout: l}
	g.seal()
	return g
}

// seal: the log's epoch is that of all units from then on. What the heads tell of their tails is answered, chain by chain.
func (g *log) seal() []int {
	tails := make([]int, len(g.layout.Chains))
	for i, chain := range g.layout.Chains {
		// From the end on, so that the head is the last one to be heard.
		for at := len(chain) - 1; at >= 0; at-- {
			tails[i] = g.units[chain[at]].Do(api.Job{Kind: api.Seal, Epoch: g.layout.Epoch}).Tail
		}
	}
	return tails
}

// renew: the next epoch, in which positions are given behind all that stands at a head.
func (g *log) renew() api.Errno {
	if g.layout.Epoch == api.MaxEpoch {
		return api.ErrOver
	}
	g.layout.Epoch++
	g.count, _ = layout.Tail(g.layout, g.seal())
	return api.OK
}
