package orchard_test

import (
	"testing"

	"orchard/api"
	"orchard/orchard"
)

// The field watch of a request.
const (
	noWatch = "\x00"
	watch   = "\x01"
)

// newServer: a server on a disk of its own.
func newServer(t *testing.T) *orchard.Server {
	t.Helper()
	d, _ := api.NewDisk()
	return serverOn(t, d)
}

func serverOn(t *testing.T, d *api.Disk) *orchard.Server {
	t.Helper()
	s, e := orchard.New(d)
	if s == nil || e != api.OK {
		t.Fatalf("P11: New = %v, %d", s, e)
	}
	return s
}

// serverOf: a server whose tree is this one already, as a snapshot would have left it on the disk.
func serverOf(t *testing.T, number int, nodes []node) *orchard.Server {
	t.Helper()
	d, _ := api.NewDisk()
	if !d.Append("snapshot", fileOf(2, number, nodes)) || !d.Sync("snapshot") {
		t.Fatal("the disk is stopped")
	}
	s := serverOn(t, d)
	mustTree(t, s, number, nodes)
	return s
}

func mustTree(t *testing.T, s *orchard.Server, number int, nodes []node) {
	t.Helper()
	if n, l := s.Tree(); n != number || !sameNodes(l, nodes) {
		t.Fatalf("P16: Tree = %d, %+v, want %d, %+v", n, l, number, nodes)
	}
}

func sameNodes(a, b []node) bool {
	if len(a) != len(b) {
		return false
	}
	for i := range a {
		if a[i] != b[i] {
			return false
		}
	}
	return true
}

// client: a session, and the mark of its last request.
type client struct {
	t    *testing.T
	s    *orchard.Server
	n    int
	mark int
}

// connect: a session that has sent nothing yet.
func connect(t *testing.T, s *orchard.Server) *client {
	t.Helper()
	n, e := s.Connect()
	if n < 1 || e != api.OK {
		t.Fatalf("P12: Connect = %d, %d", n, e)
	}
	return &client{t: t, s: s, n: n}
}

// greeted: a session of a version.
func greeted(t *testing.T, s *orchard.Server, version int) *client {
	t.Helper()
	c := connect(t, s)
	c.send(counted(four(version)))
	c.get(counted(four(version)))
	return c
}

func (c *client) send(b string) {
	c.t.Helper()
	if e := c.s.Feed(c.n, []byte(b)); e != api.OK {
		c.t.Fatalf("P13: Feed(%d, %.200x) = %d", c.n, b, e)
	}
}

func (c *client) get(want string) {
	c.t.Helper()
	if b, e := c.s.Take(c.n); string(b) != want || e != api.OK {
		c.t.Fatalf("P12, P13: Take(%d) = %.400x, %d, want %.400x", c.n, b, e, want)
	}
}

func (c *client) close() {
	c.t.Helper()
	if e := c.s.Close(c.n); e != api.OK {
		c.t.Fatalf("P12: Close(%d) = %d", c.n, e)
	}
}

// request: a request with the next mark, as a frame.
func (c *client) request(kind int, fields string) string {
	c.mark++
	return request(kind, c.mark, fields)
}

// ask sends a request that goes well; more is what comes out behind the error.
func (c *client) ask(kind int, fields string, number int, more string) {
	c.t.Helper()
	c.send(c.request(kind, fields))
	c.get(answer(c.mark, number, api.OK, more))
}

// fail sends a request that does not go well.
func (c *client) fail(kind int, fields string, number int, e api.Errno) {
	c.t.Helper()
	c.send(c.request(kind, fields))
	c.get(answer(c.mark, number, e, ""))
}

func request(kind, mark int, fields string) string {
	return counted(four(kind) + four(mark) + fields)
}

func answer(mark, number int, e api.Errno, more string) string {
	return counted(four(mark) + eight(number) + four(int(e)) + more)
}

func event(number, what int, path string) string {
	return counted(four(-1) + eight(number) + four(0) + four(what) + counted(path))
}

func fault(number, what int) string { return counted(four(-2) + eight(number) + four(what)) }

// state: what is told of a node: Made, Changed, Version, and how many children it has.
func state(made, changed, version, children int) string {
	return eight(made) + eight(changed) + four(version) + four(children)
}

// The fields of requests.

func making1(path, data string) string { return counted(path) + counted(data) }

func making(path, data, note string) string { return making1(path, data) + counted(note) }

func deleting(path string, version int) string { return counted(path) + four(version) }

func setting(path, data string, version int) string {
	return counted(path) + counted(data) + four(version)
}

func looking(path, watch string) string { return counted(path) + watch }

// names: what comes out of a List.
func names(l ...string) string {
	out := four(len(l))
	for _, s := range l {
		out += counted(s)
	}
	return out
}
