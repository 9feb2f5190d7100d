package message

import (
	"orchard/api"
	"orchard/frame"
	"orchard/value"
)

// Hello is what comes out of a Hello.
func Hello(version int) []byte { return pack(helloSchema, api.Value{N: version}) }

// Answer is what comes out of a request that went well, with the fields behind the error.
func Answer(version int, r Request, last int, more []api.Value) []byte {
	l := []api.Value{{N: r.Mark}, {N: last}, {N: int(api.OK)}}
	return pack(answers[r.Kind][version], append(l, more...)...)
}

// Error is what comes out of a request that did not go well.
func Error(r Request, last int, errno api.Errno) []byte {
	return pack(errorSchema, api.Value{N: r.Mark}, api.Value{N: last}, api.Value{N: int(errno)})
}

// Fault is what is told of a session that is at its end.
func Fault(last int, what int) []byte {
	return pack(errorSchema, api.Value{N: api.OfFault}, api.Value{N: last}, api.Value{N: what})
}

// Event is what is told to who watches a path.
func Event(last int, what int, path string) []byte {
	return pack(eventSchema, api.Value{N: api.OfEvent}, api.Value{N: last}, api.Value{N: int(api.OK)}, api.Value{N: what}, api.Value{S: path})
}

// pack makes the frame of a record. Whether it fits is not asked: whatever a tree can hold is within the bounds of values and of frames.
func pack(schema string, l ...api.Value) []byte {
	t, _ := value.Parse(schema)
	body, _ := value.Encode(t, api.Value{L: l})
	f, _ := frame.Make(body)
	return f
}

// Path is the field of a Create that went well.
func Path(path string) []api.Value { return []api.Value{{S: path}} }

// State is the field of a Set or an Exists that went well: numbers of a node, and how many children it has.
func State(n api.Node, children int) []api.Value {
	return []api.Value{{L: []api.Value{{N: n.Made}, {N: n.Changed}, {N: n.Version}, {N: children}}}}
}

// Content are the fields of a Get that went well.
func Content(version int, n api.Node, children int) []api.Value {
	l := []api.Value{{S: n.Data}}
	if hasNotes(version) {
		l = append(l, api.Value{S: n.Note})
	}
	return append(l, State(n, children)...)
}

// Names is the field of a List that went well.
func Names(names []string) []api.Value {
	var v api.Value
	for _, s := range names {
		v.L = append(v.L, api.Value{S: s})
	}
	return []api.Value{v}
}
