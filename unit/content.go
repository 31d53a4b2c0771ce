package unit

import (
	"bytes"

	"commonhold/api"
)

// content: what stands in a slot that is not unwritten; nil stands for one that is.
type content interface {
	// refusal: why nothing else is put where this stands.
	refusal() api.Errno
}

// data: bytes that were stored. Where there are none, it is still not nil as a content.
type data []byte

// junk: a slot was filled with it.
type junk struct{}

// trimmed: nothing of what stood there is told any more.
type trimmed struct{}

func (data) refusal() api.Errno { return api.ErrWritten }

func (junk) refusal() api.Errno { return api.ErrWritten }

func (trimmed) refusal() api.Errno { return api.ErrTrimmed }

// headSize: how many bytes of a frame stand ahead of its body (P5.1).
const headSize = 8

// frameSize: how many bytes a store of the data puts down.
func (d data) frameSize() int {
	return headSize + len(d)
}

// read: what is told of a slot in which c stands.
func read(c content) api.Reply {
	switch c := c.(type) {
	case data:
		return api.Reply{Data: bytes.Clone(c)}
	case junk:
		return api.Reply{Junk: true}
	case trimmed:
		return api.Reply{Code: api.ErrTrimmed}
	}
	return api.Reply{Code: api.ErrUnwritten}
}
