// Package frame: frames, and how bytes that come piece by piece are cut into them.
package frame

import (
	"sync"

	"orchard/api"
	"orchard/number"
)

// headSize is in how many bytes a frame's length stands ahead of its body.
const headSize = 4

// Make makes the frame of a body; false, if that is too long.
func Make(body []byte) ([]byte, bool) {
	if len(body) > api.MaxFrame {
		return nil, false
	}
	out := make([]byte, 0, headSize+len(body))
	out = number.Append(out, len(body), headSize)
	return append(out, body...), true
}

// Cutter cuts bytes into frames, in whatever pieces they come. The zero Cutter was given nothing yet.
type Cutter struct {
	part    []byte // what is there of a frame that is not whole yet
	tooLong bool   // a length above MaxFrame has come
}

// Each reads b behind all that was given earlier, and does the work at the body of each frame that ends in it, in order. False, if a length above MaxFrame has come, now or earlier: nothing is read behind that.
func (c *Cutter) Each(b []byte, work func(body []byte)) bool {
	if c.tooLong {
		return false
	}
	bodies := make(chan []byte)
	var begun sync.WaitGroup
	begun.Add(1)
	go func() {
		defer begun.Done()
		defer close(bodies)
		c.cut(b, bodies)
	}()
	for body := range bodies {
		work(body)
	}
	begun.Wait()
	return !c.tooLong
}

// cut sends the body of each frame that ends in b, and keeps what is behind the last one.
func (c *Cutter) cut(b []byte, bodies chan<- []byte) {
	for len(b) > 0 {
		n := min(c.missing(), len(b))
		c.part = append(c.part, b[:n]...)
		b = b[n:]
		if c.length() > api.MaxFrame {
			c.part, c.tooLong = nil, true
			return
		}
		if c.missing() == 0 {
			bodies <- c.body()
			c.part = c.part[:0]
		}
	}
}

// length is the length of the body that has begun; 0, as long as it is not known.
func (c *Cutter) length() uint64 {
	if len(c.part) < headSize {
		return 0
	}
	return number.Unsigned(c.part[:headSize])
}

// missing is how many bytes more are needed to know the length or, where it is known, to have the frame whole.
func (c *Cutter) missing() int {
	if len(c.part) < headSize {
		return headSize - len(c.part)
	}
	return headSize + int(c.length()) - len(c.part)
}

// body is a copy, since the room of the part is used again.
func (c *Cutter) body() []byte {
	out := make([]byte, len(c.part)-headSize)
	copy(out, c.part[headSize:])
	return out
}
