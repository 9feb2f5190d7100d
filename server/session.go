package server

import (
	"orchard/api"
	"orchard/frame"
	"orchard/message"
)

// session is an open session.
type session struct {
	number  int
	cutter  frame.Cutter
	version int  // 0 ahead of its Hello
	ended   bool // by a fault: it takes nothing in any more
	out     []byte
}

// tell lets a frame come out.
func (one *session) tell(f []byte) { one.out = append(one.out, f...) }

// Feed takes in bytes of a session.
func (s *Server) Feed(number int, b []byte) api.Errno {
	one := s.find(number)
	if one == nil {
		return api.ErrSession
	}
	if s.isDown() {
		return api.ErrDown
	}
	if !one.ended {
		s.read(one, b)
	}
	if s.isDown() {
		return api.ErrDown
	}
	return api.OK
}

// read works at the frames that end in b. Frames behind a fault, or behind what has brought the server down, are cut off still, but left alone.
func (s *Server) read(one *session, b []byte) {
	whole := one.cutter.Each(b, func(body []byte) {
		if !one.ended && !s.isDown() {
			s.take(one, body)
		}
	})
	if !whole && !one.ended && !s.isDown() {
		s.end(one, api.TooLong)
	}
	if one.ended {
		one.cutter = frame.Cutter{}
	}
}

// take works at a frame.
func (s *Server) take(one *session, body []byte) {
	if one.version == 0 {
		s.greet(one, body)
		return
	}
	r, ok := message.ReadRequest(one.version, body)
	if !ok {
		s.end(one, api.NoSense)
		return
	}
	s.work(one, r)
}

// greet works at a Hello.
func (s *Server) greet(one *session, body []byte) {
	version, ok := message.ReadHello(body)
	if !ok {
		s.end(one, api.NoSense)
		return
	}
	if version < 1 {
		s.end(one, api.Refused)
		return
	}
	one.version = min(version, api.Newest)
	one.tell(message.Hello(one.version))
}

// end ends a session that is at fault. It stays open, so that what came out can be taken.
func (s *Server) end(one *session, what int) {
	one.ended = true
	s.watches.End(one.number)
	one.tell(message.Fault(s.tree.Number(), what))
}
