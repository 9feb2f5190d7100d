// Package server: a tree, the sessions that change and watch it, and the disk that keeps it.
package server

import (
	"orchard/api"
	"orchard/journal"
	"orchard/tree"
	"orchard/watch"
)

// Server is a server. A nil one, which New answers beside an error, is as one that is down and has no sessions.
type Server struct {
	journal  journal.Journal
	tree     *tree.Tree
	watches  watch.Watches
	sessions map[int]*session // the open ones, by their numbers
	last     int              // the number of the last session
	down     bool
}

// New makes a server of what is on a disk.
func New(d *api.Disk) (*Server, api.Errno) {
	// A disk that NewDisk did not make has nothing that a call could be made on.
	if d == nil || *d == (api.Disk{}) {
		return nil, api.ErrArg
	}
	j, t, ok := journal.Open(d)
	if !ok {
		return nil, api.ErrDown
	}
	return &Server{journal: j, tree: t, watches: watch.Watches{}, sessions: map[int]*session{}}, api.OK
}

func (s *Server) isDown() bool { return s == nil || s.down }

// find tells an open session, or nil.
func (s *Server) find(number int) *session {
	if s == nil {
		return nil
	}
	return s.sessions[number]
}

// Connect opens a session.
func (s *Server) Connect() (int, api.Errno) {
	if s.isDown() {
		return 0, api.ErrDown
	}
	if len(s.sessions) >= api.MaxSessions {
		return 0, api.ErrMany
	}
	s.last++
	s.sessions[s.last] = &session{number: s.last}
	return s.last, api.OK
}

// Take tells what has come out for a session and was not taken yet.
func (s *Server) Take(number int) ([]byte, api.Errno) {
	one := s.find(number)
	if one == nil {
		return nil, api.ErrSession
	}
	out := one.out
	one.out = nil
	return out, api.OK
}

// Close ends a session.
func (s *Server) Close(number int) api.Errno {
	if s.find(number) == nil {
		return api.ErrSession
	}
	delete(s.sessions, number)
	s.watches.End(number)
	return api.OK
}

// Tree tells the number of the last change, and all nodes.
func (s *Server) Tree() (int, []api.Node) {
	if s == nil {
		return 0, nil
	}
	return s.tree.Number(), s.tree.Nodes()
}

// Snapshot lays the tree down whole.
func (s *Server) Snapshot() api.Errno {
	if s.isDown() {
		return api.ErrDown
	}
	if !s.journal.Snapshot(s.tree) {
		s.down = true
		return api.ErrDown
	}
	return api.OK
}
