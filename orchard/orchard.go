// Package orchard: a tree of small nodes that sessions change and watch: see DOC.md.
package orchard

import (
	"orchard/api"
	"orchard/file"
	"orchard/frame"
	"orchard/server"
	"orchard/value"
)

// Encode makes the bytes of a value (P3).
func Encode(schema string, v api.Value) ([]byte, api.Errno) {
	t, ok := value.Parse(schema)
	if !ok {
		return nil, api.ErrSchema
	}
	b, ok := value.Encode(t, v)
	if !ok {
		return nil, api.ErrValue
	}
	return b, api.OK
}

// Decode reads the bytes of a value (P4).
func Decode(schema string, b []byte) (api.Value, api.Errno) {
	t, ok := value.Parse(schema)
	if !ok {
		return api.Value{}, api.ErrSchema
	}
	v, ok := value.Decode(t, b)
	if !ok {
		return api.Value{}, api.ErrBytes
	}
	return v, api.OK
}

// Frame makes a frame (P5).
func Frame(body []byte) ([]byte, api.Errno) {
	b, ok := frame.Make(body)
	if !ok {
		return nil, api.ErrFrame
	}
	return b, api.OK
}

// Reader reads frames out of bytes that come piece by piece.
type Reader struct{ cutter frame.Cutter }

// NewReader makes a reader (P6).
func NewReader() *Reader { return &Reader{} }

// Feed reads more bytes (P6).
func (r *Reader) Feed(b []byte) ([][]byte, api.Errno) {
	var bodies [][]byte
	ok := r.cutter.Each(b, func(body []byte) { bodies = append(bodies, body) })
	if !ok {
		return bodies, api.ErrFrame
	}
	return bodies, api.OK
}

// Sum tells a sum of bytes (P7).
func Sum(b []byte) int { return file.Sum(b) }

// Save makes a file of a tree (P8).
func Save(version int, number int, nodes []api.Node) ([]byte, api.Errno) {
	return file.Save(version, number, nodes)
}

// Load reads a file (P9).
func Load(b []byte) (int, int, []api.Node, api.Errno) { return file.Load(b) }

// Upgrade makes a file of the newest version of a file (P10).
func Upgrade(b []byte) ([]byte, api.Errno) {
	_, number, nodes, errno := file.Load(b)
	if errno != api.OK {
		return nil, errno
	}
	return file.Save(api.Newest, number, nodes)
}

// Server keeps a tree.
type Server struct{ kept *server.Server }

// inner is nil where New has answered no server: calls may be made on that too.
func (s *Server) inner() *server.Server {
	if s == nil {
		return nil
	}
	return s.kept
}

// New makes a server of what is on a disk (P11, P17).
func New(d *api.Disk) (*Server, api.Errno) {
	kept, errno := server.New(d)
	if errno != api.OK {
		return nil, errno
	}
	return &Server{kept: kept}, api.OK
}

// Connect makes a session (P12).
func (s *Server) Connect() (int, api.Errno) { return s.inner().Connect() }

// Feed takes in bytes of a session (P13 to P15).
func (s *Server) Feed(session int, b []byte) api.Errno { return s.inner().Feed(session, b) }

// Take tells what has come out for a session (P12).
func (s *Server) Take(session int) ([]byte, api.Errno) { return s.inner().Take(session) }

// Close ends a session (P12).
func (s *Server) Close(session int) api.Errno { return s.inner().Close(session) }

// Tree tells the number of the last change, and all nodes (P16).
func (s *Server) Tree() (int, []api.Node) { return s.inner().Tree() }

// Snapshot lays the tree down in a file of its own (P18).
func (s *Server) Snapshot() api.Errno { return s.inner().Snapshot() }
