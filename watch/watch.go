// Package watch: which sessions watch what, and what they are told of a change.
package watch

import (
	"maps"

	"orchard/api"
	"orchard/tree"
)

// Aspect is what of a node is watched.
type Aspect int

const (
	Data Aspect = iota
	Children
)

// Watch is one watch of a session's.
type Watch struct {
	Session int
	Path    string
	Of      Aspect
}

// Watches are all watches. The values hold nothing: a watch is there, or not.
type Watches map[Watch]struct{}

// Event is what a session is told.
type Event struct {
	What int
	Path string
}

// telling is one thing that is told of a change: to those who watch this aspect of its path, or of the parent.
type telling struct {
	of     Aspect
	parent bool
	what   int
}

// tellings are, by the kind of a change, what a session is told of it, in order.
var tellings = [...][]telling{
	api.Create: {{of: Data, what: api.Created}, {of: Children, parent: true, what: api.Children}},
	api.Delete: {{of: Data, what: api.Deleted}, {of: Children, what: api.Deleted}, {of: Children, parent: true, what: api.Children}},
	api.Set:    {{of: Data, what: api.Changed}},
}

// Add lets a session watch.
func (w Watches) Add(x Watch) { w[x] = struct{}{} }

// End takes away all watches of a session.
func (w Watches) End(session int) {
	maps.DeleteFunc(w, func(x Watch, _ struct{}) bool { return x.Session == session })
}

// Tell tells what a session is told of a change, in order, and takes these watches away.
func (w Watches) Tell(session int, c tree.Change) []Event {
	var events []Event
	for _, t := range tellings[c.Kind] {
		path := c.Path
		if t.parent {
			path = tree.Parent(path)
		}
		x := Watch{Session: session, Path: path, Of: t.of}
		if _, ok := w[x]; ok {
			delete(w, x)
			events = append(events, Event{What: t.what, Path: path})
		}
	}
	return events
}
