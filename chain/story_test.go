package chain

import (
	"slices"
	"testing"

	"commonhold/api"
)

// story: acts with what is wanted of each.
type story struct {
	*testing.T
	layout api.Layout
	l      []api.Act
	want   []api.Line
}

func tell(t *testing.T, l api.Layout) *story { return &story{T: t, layout: l} }

// again: a story that begins as this one, and goes on by itself.
func (s *story) again() *story {
	return &story{s.T, s.layout, slices.Clone(s.l), slices.Clone(s.want)}
}

// does: an act is wanted to be told so.
func (s *story) does(a api.Act, want api.Line) *story {
	s.l = append(s.l, a)
	s.want = append(s.want, want)
	return s
}

// refuses: acts are refused.
func (s *story) refuses(code api.Errno, l ...api.Act) *story {
	for _, a := range l {
		s.does(a, coded(code))
	}
	return s
}

// write: an append begins, and gets a position.
func (s *story) write(who int, data string, pos int) *story {
	return s.does(write(who, data), api.Line{Addr: pos})
}

func (s *story) read(who, pos int) *story { return s.does(read(who, pos), api.Line{}) }

func (s *story) mend(who, pos int) *story { return s.does(mend(who, pos), api.Line{}) }

func (s *story) stop(who int) *story { return s.does(stop(who), api.Line{}) }

func (s *story) renew() *story { return s.does(renew(), api.Line{}) }

// steps: so many, behind none of which the work has ended.
func (s *story) steps(who, n int) *story {
	for range n {
		s.does(step(who), api.Line{})
	}
	return s
}

// wrote: a step ends an append.
func (s *story) wrote(who, pos int) *story {
	return s.does(step(who), api.Line{Done: true, Addr: pos})
}

// got: a step ends a read or a mend, and tells data.
func (s *story) got(who, pos int, data string) *story {
	return s.does(step(who), api.Line{Done: true, Addr: pos, Data: []byte(data)})
}

// gotJunk: a step ends a read or a mend, and tells junk.
func (s *story) gotJunk(who, pos int) *story {
	return s.does(step(who), api.Line{Done: true, Addr: pos, Junk: true})
}

// gotNone: a step ends a read of what is unwritten.
func (s *story) gotNone(who, pos int) *story {
	return s.does(step(who), api.Line{Code: api.ErrUnwritten, Done: true, Addr: pos})
}

// full: a step ends an append, as there is no other position for it.
func (s *story) full(who int) *story {
	return s.does(step(who), api.Line{Code: api.ErrFull, Done: true})
}

// along: how many steps a work along a whole chain has ahead of its last one.
func (s *story) along(pos int) int { return length(s.layout, pos) - 1 }

// written: a client appends, from the beginning of the work to its end.
func (s *story) written(who int, data string, pos int) *story {
	return s.write(who, data, pos).goesOn(who, pos)
}

// goesOn: an append that stands at the head goes on to its end.
func (s *story) goesOn(who, pos int) *story { return s.steps(who, s.along(pos)).wrote(who, pos) }

// junked: a client mends what is unwritten or junk.
func (s *story) junked(who, pos int) *story {
	return s.mend(who, pos).steps(who, s.along(pos)).gotJunk(who, pos)
}

// mended: a client mends what has data, at the head at least.
func (s *story) mended(who, pos int, data string) *story {
	return s.mend(who, pos).steps(who, s.along(pos)).got(who, pos, data)
}

// reads: a client reads data.
func (s *story) reads(who, pos int, data string) *story { return s.read(who, pos).got(who, pos, data) }

func (s *story) readsJunk(who, pos int) *story { return s.read(who, pos).gotJunk(who, pos) }

// readsNone: a client reads positions that are unwritten.
func (s *story) readsNone(who int, l ...int) *story {
	for _, pos := range l {
		s.read(who, pos).gotNone(who, pos)
	}
	return s
}

// idle: clients are not at work.
func (s *story) idle(l ...int) *story {
	for _, who := range l {
		s.refuses(api.ErrState, step(who))
	}
	return s
}

func (s *story) end() {
	s.Helper()
	plays(s.T, s.layout, s.l, s.want...)
}
