package message

import (
	"orchard/api"
	"orchard/number"
	"orchard/value"
)

// kindSize is in how many bytes a request's kind stands, ahead of all else.
const kindSize = 4

// Request is a request. What its kind does not have is empty, 0 or false.
type Request struct {
	Kind, Mark       int
	Path, Data, Note string
	Version          int
	Watch            bool
}

// ReadHello reads the version of a Hello; false, if the body is none.
func ReadHello(body []byte) (int, bool) {
	l, ok := fields(helloSchema, body)
	if !ok {
		return 0, false
	}
	return l[0].N, true
}

// ReadRequest reads a request of a session of this version; false, if the body is none.
func ReadRequest(version int, body []byte) (Request, bool) {
	kind, ok := readKind(body)
	if !ok {
		return Request{}, false
	}
	l, ok := fields(requests[kind][version], body)
	if !ok || l[1].N < 0 {
		return Request{}, false
	}
	r := Request{Kind: kind, Mark: l[1].N}
	r.fill(l[2:])
	return r, true
}

// readKind reads the kind on its own, since the schema hangs on it.
func readKind(body []byte) (int, bool) {
	if len(body) < kindSize {
		return 0, false
	}
	kind := number.Signed(body[:kindSize])
	return kind, api.Create <= kind && kind <= api.Ping
}

// fields are those of a body that is a record of the schema; false, if it is none.
func fields(schema string, body []byte) ([]api.Value, bool) {
	t, ok := value.Parse(schema)
	if !ok {
		return nil, false
	}
	v, ok := value.Decode(t, body)
	return v.L, ok
}

// fill lays down the fields behind the mark.
func (r *Request) fill(l []api.Value) {
	switch r.Kind {
	case api.Create:
		r.Path, r.Data = l[0].S, l[1].S
		if len(l) > 2 {
			r.Note = l[2].S
		}
	case api.Delete:
		r.Path, r.Version = l[0].S, l[1].N
	case api.Set:
		r.Path, r.Data, r.Version = l[0].S, l[1].S, l[2].N
	case api.Get, api.Exists, api.List:
		r.Path, r.Watch = l[0].S, l[1].N == 1
	}
}
