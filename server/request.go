package server

import (
	"maps"
	"slices"

	"orchard/api"
	"orchard/message"
	"orchard/tree"
	"orchard/watch"
)

// work does what a request asks for.
func (s *Server) work(one *session, r message.Request) {
	switch r.Kind {
	case api.Create, api.Delete, api.Set:
		s.change(one, r)
	case api.Get, api.Exists, api.List:
		s.look(one, r)
	default:
		s.answer(one, r, nil)
	}
}

func (s *Server) answer(one *session, r message.Request, more []api.Value) {
	one.tell(message.Answer(one.version, r, s.tree.Number(), more))
}

func (s *Server) refuse(one *session, r message.Request, errno api.Errno) {
	one.tell(message.Error(r, s.tree.Number(), errno))
}

// change does a change, if it can be done and made safe ahead of that.
func (s *Server) change(one *session, r message.Request) {
	c := tree.Change{Kind: r.Kind, Path: r.Path, Data: r.Data, Note: r.Note, Version: r.Version}
	if errno := s.tree.Check(c); errno != api.OK {
		s.refuse(one, r, errno)
		return
	}
	if !s.journal.Record(s.tree.Number()+1, c) {
		s.down = true
		return
	}
	s.tree.Do(c)
	s.tellWatchers(c)
	s.answer(one, r, s.outcome(c))
}

// tellWatchers tells every session what it watches of a change.
func (s *Server) tellWatchers(c tree.Change) {
	for _, number := range slices.Sorted(maps.Keys(s.sessions)) {
		for _, e := range s.watches.Tell(number, c) {
			s.sessions[number].tell(message.Event(s.tree.Number(), e.What, e.Path))
		}
	}
}

// outcome is what is answered to a change that was done.
func (s *Server) outcome(c tree.Change) []api.Value {
	switch c.Kind {
	case api.Create:
		return message.Path(c.Path)
	case api.Set:
		n, _ := s.tree.Find(c.Path)
		return message.State(n, len(s.tree.Children(c.Path)))
	default:
		return nil
	}
}

// look answers a Get, an Exists or a List, and lets the session watch if it asks for that.
func (s *Server) look(one *session, r message.Request) {
	n, errno := s.tree.Find(r.Path)
	if r.Watch && mayWatch(r.Kind, errno) {
		s.watches.Add(watch.Watch{Session: one.number, Path: r.Path, Of: watched(r.Kind)})
	}
	if errno != api.OK {
		s.refuse(one, r, errno)
		return
	}
	children := s.tree.Children(r.Path)
	switch r.Kind {
	case api.Get:
		s.answer(one, r, message.Content(one.version, n, len(children)))
	case api.Exists:
		s.answer(one, r, message.State(n, len(children)))
	default:
		s.answer(one, r, message.Names(children))
	}
}

// mayWatch: an Exists may wait for a node that is not there yet.
func mayWatch(kind int, errno api.Errno) bool {
	return errno == api.OK || kind == api.Exists && errno == api.ErrNone
}

func watched(kind int) watch.Aspect {
	if kind == api.List {
		return watch.Children
	}
	return watch.Data
}
