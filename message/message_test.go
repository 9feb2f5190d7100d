package message

import (
	"slices"
	"testing"

	"orchard/api"
	"orchard/value"
)

// Every kind has a schema of its request and of its answer in every version.
func TestTables(t *testing.T) {
	for kind := api.Create; kind <= api.Ping; kind++ {
		for version := 1; version <= api.Newest; version++ {
			for _, schema := range []string{requests[kind][version], answers[kind][version]} {
				if _, ok := value.Parse(schema); !ok {
					t.Errorf("kind %d in version %d has %q", kind, version, schema)
				}
			}
		}
	}
}

func TestReadRequest(t *testing.T) {
	for _, c := range []struct {
		version int
		body    string
		want    Request
	}{
		{1, "\x00\x00\x00\x01\x00\x00\x00\x05\x00\x00\x00\x02/a\x00\x00\x00\x01x", Request{Kind: api.Create, Mark: 5, Path: "/a", Data: "x"}},
		{2, "\x00\x00\x00\x01\x00\x00\x00\x05\x00\x00\x00\x02/a\x00\x00\x00\x01x\x00\x00\x00\x01n", Request{Kind: api.Create, Mark: 5, Path: "/a", Data: "x", Note: "n"}},
		{1, "\x00\x00\x00\x02\x00\x00\x00\x06\x00\x00\x00\x01/\xff\xff\xff\xff", Request{Kind: api.Delete, Mark: 6, Path: "/", Version: -1}},
		{2, "\x00\x00\x00\x03\x00\x00\x00\x07\x00\x00\x00\x01/\x00\x00\x00\x01x\x00\x00\x00\x09", Request{Kind: api.Set, Mark: 7, Path: "/", Data: "x", Version: 9}},
		{1, "\x00\x00\x00\x04\x00\x00\x00\x08\x00\x00\x00\x01/\x01", Request{Kind: api.Get, Mark: 8, Path: "/", Watch: true}},
		{2, "\x00\x00\x00\x05\x00\x00\x00\x08\x00\x00\x00\x01/\x00", Request{Kind: api.Exists, Mark: 8, Path: "/"}},
		{1, "\x00\x00\x00\x06\x00\x00\x00\x08\x00\x00\x00\x00\x01", Request{Kind: api.List, Mark: 8, Watch: true}},
		{2, "\x00\x00\x00\x07\x7f\xff\xff\xff", Request{Kind: api.Ping, Mark: 1<<31 - 1}},
	} {
		if r, ok := ReadRequest(c.version, []byte(c.body)); !ok || r != c.want {
			t.Errorf("ReadRequest(%d, %x) = %+v, %t, want %+v", c.version, c.body, r, ok, c.want)
		}
		for _, wrong := range []string{c.body + "\x00", c.body[:len(c.body)-1], c.body[:4] + "\xff" + c.body[5:], "\x01" + c.body[1:], ""} {
			if r, ok := ReadRequest(c.version, []byte(wrong)); ok || r != (Request{}) {
				t.Errorf("ReadRequest(%d, %x) = %+v, %t", c.version, wrong, r, ok)
			}
		}
	}
}

// Nothing that a tree can hold is too long for a frame.
func TestTheLongestAnswers(t *testing.T) {
	name := "name-of-23-bytes.......x"[:api.MaxPath-1]
	n := api.Node{Data: string(make([]byte, api.MaxData)), Note: string(make([]byte, api.MaxNote))}
	for what, f := range map[string][]byte{
		"Create": Answer(2, Request{Kind: api.Create}, 1, Path("/"+name)),
		"Get":    Answer(2, Request{Kind: api.Get}, 1, Content(2, n, api.MaxNodes)),
		"List":   Answer(2, Request{Kind: api.List}, 1, Names(slices.Repeat([]string{name}, api.MaxNodes-1))),
		"event":  Event(1, api.Children, "/"+name),
	} {
		if len(f) <= 4+16 {
			t.Errorf("%s: %x", what, f)
		}
	}
}
