package chain

import "commonhold/api"

// store: an append's step at the head.
func (h *hand) store() api.Line {
	if h.do().Code == api.OK {
		h.result = api.Line{Done: true, Addr: h.pos}
		return h.onward()
	}
	// The position is another one's, or may come to be: it takes one of its own.
	if e := h.take(); e != api.OK {
		return h.end(api.Line{Code: e, Done: true})
	}
	return api.Line{}
}

// fill: a mend's step at the head, which settles what the position has.
func (h *hand) fill() api.Line {
	r := h.do()
	if r.Code == api.ErrSealed {
		return api.Line{}
	}
	if r.Code == api.ErrWritten && !r.Junk {
		h.Kind, h.Data = api.Store, r.Data
	}
	h.result = api.Line{Done: true, Addr: h.pos, Junk: h.Kind == api.Fill, Data: r.Data}
	return h.onward()
}

// carry: a step behind the head, of an append or a mend. What was written there already is the same, as the head alone settles it.
func (h *hand) carry() api.Line {
	if h.do().Code == api.ErrSealed {
		return api.Line{}
	}
	return h.onward()
}

// fetch: a read's step. It is at the end, so that what it tells is on all units of the chain.
func (h *hand) fetch() api.Line {
	r := h.do()
	if r.Code == api.ErrSealed {
		return api.Line{}
	}
	return h.end(api.Line{Code: r.Code, Done: true, Addr: h.pos, Junk: r.Junk, Data: r.Data})
}

// do: what the step's job comes to. A client that is sealed out learns of the log's epoch by that.
func (h *hand) do() api.Reply {
	r := h.units[h.ahead[0]].Do(h.Job)
	if r.Code == api.ErrSealed {
		h.Epoch = h.layout.Epoch
	}
	return r
}

// onward: the work is done with a unit, and goes on to the next one, if there is one.
func (h *hand) onward() api.Line {
	h.ahead = h.ahead[1:]
	if len(h.ahead) == 0 {
		return h.end(h.result)
	}
	h.goOn = h.carry
	return api.Line{}
}

// end: the client is not at work any more.
func (h *hand) end(told api.Line) api.Line {
	h.work = work{}
	return told
}
