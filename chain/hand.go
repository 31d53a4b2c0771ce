package chain

import (
	"commonhold/api"
	"commonhold/layout"
)

// hand: a client, with the log at hand that it shares.
type hand struct {
	*log
	work
}

// work: what a client is at; the zero one stands for none.
type work struct {
	// Job: the next step's. Its Epoch is the one that the client knows.
	api.Job
	goOn func() api.Line // the next step
	pos  int
	// ahead: the units of the position's chain with which the work is not done yet, the next step's first.
	ahead []int
	// result: what is told when it is done with all.
	result api.Line
}

// handsOf: the clients of a log.
func handsOf(g *log) []hand {
	hands := make([]hand, api.MaxHands)
	for i := range hands {
		hands[i].log = g
	}
	return hands
}

// play: what an act of the client comes to.
func (h *hand) play(a api.Act) api.Line {
	busy := h.goOn != nil
	switch {
	case a.Kind == api.Stop:
		return h.end(api.Line{})
	case a.Kind == api.Step && busy:
		return h.goOn()
	case a.Kind == api.Step || busy:
		return api.Line{Code: api.ErrState}
	}
	return h.begin(a)
}

// begin: the client is at work from then on, if nothing is refused.
func (h *hand) begin(a api.Act) api.Line {
	switch a.Kind {
	case api.Append:
		return h.append(a.Data)
	case api.Read:
		return h.read(a.Addr)
	}
	return h.mend(a.Addr)
}

func (h *hand) append(data []byte) api.Line {
	if len(data) > api.MaxBody {
		return api.Line{Code: api.ErrSize}
	}
	if e := h.take(); e != api.OK {
		return api.Line{Code: e}
	}
	h.start(api.Store, h.store)
	h.Data = data
	return api.Line{Addr: h.pos}
}

func (h *hand) read(pos int) api.Line {
	e := h.stand(pos)
	if e == api.OK {
		h.ahead = h.ahead[len(h.ahead)-1:]
		h.start(api.Fetch, h.fetch)
	}
	return api.Line{Code: e}
}

func (h *hand) mend(pos int) api.Line {
	e := h.stand(pos)
	if e == api.OK {
		h.start(api.Fill, h.fill)
	}
	return api.Line{Code: e}
}

// stand: the client's position is pos from then on, and its next step at the head there.
func (h *hand) stand(pos int) api.Errno {
	chain, addr, e := layout.Place(h.layout, pos)
	if e == api.OK {
		h.pos, h.Addr, h.ahead = pos, addr, h.layout.Chains[chain]
	}
	return e
}

// take: the client's position is the counter's, which nobody else gets then.
func (h *hand) take() api.Errno {
	if h.stand(h.count) != api.OK {
		return api.ErrFull
	}
	h.count++
	return api.OK
}

// start: the work begins with a kind of job.
func (h *hand) start(kind int, goOn func() api.Line) {
	h.Kind, h.Epoch, h.goOn = kind, h.layout.Epoch, goOn
}
