package orchard_test

import (
	"path"
	"slices"
	"unicode/utf8"

	"orchard/api"
)

// model is what the document says of a server, told in another way than the program's: by lists that are gone through from end to end, and by bytes that are cut by hand.
type model struct {
	number   int
	nodes    []node
	watches  []seen
	sessions []*told // that with the number n at n - 1
}

// seen: what a session watches, as "data /a" or "children /a".
type seen struct {
	n  int
	of string
}

// told: a session of a model.
type told struct {
	version int
	ended   bool
	in, out string
}

func newModel() *model { return &model{nodes: root()} }

func (m *model) connect() { m.sessions = append(m.sessions, &told{}) }

func (m *model) take(n int) string {
	out := m.sessions[n-1].out
	m.sessions[n-1].out = ""
	return out
}

// tree: the nodes by their paths.
func (m *model) tree() []node {
	l := slices.Clone(m.nodes)
	slices.SortFunc(l, func(a, b node) int {
		if a.Path < b.Path {
			return -1
		}
		return 1
	})
	return l
}

func (m *model) feed(n int, b string) {
	x := m.sessions[n-1]
	for x.in += b; len(x.in) >= 4 && !x.ended; {
		size := int(x.in[0])<<24 + int(x.in[1])<<16 + int(x.in[2])<<8 + int(x.in[3])
		if size > 1000 {
			m.end(n, 2)
			return
		}
		if len(x.in) < 4+size {
			return
		}
		body := x.in[4 : 4+size]
		x.in = x.in[4+size:]
		m.frame(n, cut{s: body})
	}
}

func (m *model) end(n, what int) {
	x := m.sessions[n-1]
	x.ended, x.in = true, ""
	x.out += fault(m.number, what)
	m.forget(n)
}

// close: what was not taken is gone.
func (m *model) close(n int) {
	*m.sessions[n-1] = told{ended: true}
	m.forget(n)
}

func (m *model) forget(n int) {
	m.watches = slices.DeleteFunc(m.watches, func(w seen) bool { return w.n == n })
}

// cut takes fields off a body.
type cut struct {
	s   string
	bad bool
}

func (c *cut) bytes(n int) string {
	if n > len(c.s) {
		c.bad = true
		return "\xff\xff\xff\xff"
	}
	out := c.s[:n]
	c.s = c.s[n:]
	return out
}

func (c *cut) number() int {
	b := c.bytes(4)
	return int(int32(uint32(b[0])<<24 + uint32(b[1])<<16 + uint32(b[2])<<8 + uint32(b[3])))
}

func (c *cut) buffer() string {
	n := c.number()
	if n < 0 || n > 200 || n > len(c.s) {
		c.bad = true
		return ""
	}
	return c.bytes(n)
}

func (c *cut) text() string {
	s := c.buffer()
	c.bad = c.bad || !utf8.ValidString(s)
	return s
}

func (c *cut) bool() bool {
	b := c.bytes(1)
	c.bad = c.bad || b != "\x00" && b != "\x01"
	return b == "\x01"
}

func (m *model) frame(n int, c cut) {
	x := m.sessions[n-1]
	if x.version == 0 {
		v := c.number()
		switch {
		case c.bad || c.s != "":
			m.end(n, 3)
		case v < 1:
			m.end(n, 1)
		default:
			x.version = min(v, 2)
			x.out += counted(four(x.version))
		}
		return
	}
	kind, mark := c.number(), c.number()
	var p, data, note string
	var version int
	var watches bool
	if kind != api.Ping {
		p = c.text()
	}
	if kind == api.Create || kind == api.Set {
		data = c.buffer()
	}
	if kind == api.Create && x.version == 2 {
		note = c.text()
	}
	if kind == api.Delete || kind == api.Set {
		version = c.number()
	}
	if kind == api.Get || kind == api.Exists || kind == api.List {
		watches = c.bool()
	}
	if c.bad || c.s != "" || kind < 1 || kind > 7 || mark < 0 {
		m.end(n, 3)
		return
	}
	e, more := m.do(n, kind, p, data, note, version, watches)
	x.out += answer(mark, m.number, e, more)
}

func (m *model) find(p string) int {
	return slices.IndexFunc(m.nodes, func(n node) bool { return n.Path == p })
}

func (m *model) children(p string) []string {
	var l []string
	for _, n := range m.nodes {
		if n.Path != "/" && path.Dir(n.Path) == p {
			l = append(l, path.Base(n.Path))
		}
	}
	slices.Sort(l)
	return l
}

// errno: the first error of a request, in the document's order.
func (m *model) errno(kind int, p, data, note string, version int) api.Errno {
	i := m.find(p)
	other := i >= 0 && version != -1 && version != m.nodes[i].Version
	for _, c := range []struct {
		kinds string
		e     api.Errno
		wrong bool
	}{
		{"123456", api.ErrPath, !isPath(p)},
		{"2", api.ErrRoot, p == "/"},
		{"13", api.ErrData, len(data) > 40 || len(note) > 10},
		{"1", api.ErrExists, i >= 0},
		{"1", api.ErrNone, m.find(path.Dir(p)) < 0},
		{"1", api.ErrFull, len(m.nodes) >= 32},
		{"23456", api.ErrNone, i < 0},
		{"23", api.ErrVersion, other},
		{"2", api.ErrChildren, len(m.children(p)) > 0},
	} {
		if c.wrong && slices.Contains([]byte(c.kinds), byte('0'+kind)) {
			return c.e
		}
	}
	return api.OK
}

func (m *model) state(i int) string {
	n := m.nodes[i]
	return state(n.Made, n.Changed, n.Version, len(m.children(n.Path)))
}

func (m *model) do(n, kind int, p, data, note string, version int, watches bool) (api.Errno, string) {
	e := m.errno(kind, p, data, note, version)
	if watches && (e == api.OK || kind == api.Exists && e == api.ErrNone) {
		m.watch(n, kind, p)
	}
	if e != api.OK {
		return e, ""
	}
	i := m.find(p)
	switch kind {
	case api.Create:
		m.number++
		m.nodes = append(m.nodes, node{Path: p, Data: data, Note: note, Made: m.number, Changed: m.number})
		m.tell("data "+p, 1, p, "children "+path.Dir(p), 4, path.Dir(p))
		return e, counted(p)
	case api.Delete:
		m.number++
		m.nodes = slices.Delete(m.nodes, i, i+1)
		m.tell("data "+p, 2, p, "children "+p, 2, p, "children "+path.Dir(p), 4, path.Dir(p))
		return e, ""
	case api.Set:
		m.number++
		x := &m.nodes[i]
		x.Data, x.Changed, x.Version = data, m.number, (x.Version+1)%(1<<31)
		m.tell("data "+p, 3, p)
		return e, m.state(i)
	case api.Get:
		if m.sessions[n-1].version == 1 {
			return e, counted(m.nodes[i].Data) + m.state(i)
		}
		return e, counted(m.nodes[i].Data) + counted(m.nodes[i].Note) + m.state(i)
	case api.Exists:
		return e, m.state(i)
	case api.List:
		return e, names(m.children(p)...)
	}
	return e, ""
}

func (m *model) watch(n, kind int, p string) {
	w := seen{n, "data " + p}
	if kind == api.List {
		w.of = "children " + p
	}
	if !slices.Contains(m.watches, w) {
		m.watches = append(m.watches, w)
	}
}

// tell: threes of what is watched, what is told, and with which path.
func (m *model) tell(threes ...any) {
	for n := range m.sessions {
		for i := 0; i < len(threes); i += 3 {
			at := slices.Index(m.watches, seen{n + 1, threes[i].(string)})
			if at >= 0 {
				m.watches = slices.Delete(m.watches, at, at+1)
				m.sessions[n].out += event(m.number, threes[i+1].(int), threes[i+2].(string))
			}
		}
	}
}
