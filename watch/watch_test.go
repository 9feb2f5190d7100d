package watch

import (
	"slices"
	"testing"

	"orchard/api"
	"orchard/tree"
)

func TestTell(t *testing.T) {
	w := Watches{}
	for _, session := range []int{1, 2} {
		for _, path := range []string{"/a", "/a/b", "/"} {
			w.Add(Watch{Session: session, Path: path, Of: Data})
			w.Add(Watch{Session: session, Path: path, Of: Children})
			w.Add(Watch{Session: session, Path: path, Of: Children})
		}
	}
	for _, c := range []struct {
		kind int
		path string
		want []Event
	}{
		{api.Set, "/", []Event{{api.Changed, "/"}}},
		{api.Set, "/", nil},
		{api.Create, "/a/b", []Event{{api.Created, "/a/b"}, {api.Children, "/a"}}},
		{api.Delete, "/a/b", []Event{{api.Deleted, "/a/b"}}}, // of the children; the data was told
		{api.Delete, "/a", []Event{{api.Deleted, "/a"}, {api.Children, "/"}}},
		{api.Create, "/a", nil},
	} {
		if l := w.Tell(1, tree.Change{Kind: c.kind, Path: c.path}); !slices.Equal(l, c.want) {
			t.Errorf("of kind %d at %s session 1 is told %v, want %v", c.kind, c.path, l, c.want)
		}
	}
	if len(w) != 6 {
		t.Errorf("behind all that %d watches are there, want those of session 2", len(w))
	}
}

// What is kept is no more than is watched.
func TestEnd(t *testing.T) {
	w := Watches{}
	for session := range 3 {
		w.Add(Watch{Session: session, Path: "/a", Of: Data})
		w.Add(Watch{Session: session, Path: "/a", Of: Children})
	}
	w.End(1)
	w.End(7)
	if l := w.Tell(1, tree.Change{Kind: api.Delete, Path: "/a"}); l != nil || len(w) != 4 {
		t.Errorf("a session that is at its end is told %v; %d watches are left", l, len(w))
	}
	if l := w.Tell(2, tree.Change{Kind: api.Delete, Path: "/a"}); len(l) != 2 {
		t.Errorf("another is told %v", l)
	}
}
