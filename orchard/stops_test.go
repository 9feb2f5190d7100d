package orchard_test

import (
	"math/rand"
	"strings"
	"testing"

	"orchard/api"
	"orchard/orchard"
)

// Tests of P15: a disk that stops, and a server that is down.

// mustBeDown: a server is down; sessions can still be taken from and closed.
func mustBeDown(t *testing.T, s *orchard.Server, open int, number int, nodes []node) {
	t.Helper()
	noConnect(t, s)
	for _, in := range []string{"", request(api.Ping, 1, ""), four(1001), counted("")} {
		if e := s.Feed(open, []byte(in)); e != api.ErrDown {
			t.Errorf("P15: Feed = %d, want ErrDown", e)
		}
	}
	if e := s.Snapshot(); e != api.ErrDown {
		t.Errorf("P15: Snapshot = %d, want ErrDown", e)
	}
	mustTree(t, s, number, nodes)
	noSession(t, s, 0, 99)
	if b, e := s.Take(open); len(b) > 0 || e != api.OK {
		t.Errorf("P15: Take = %x, %d", b, e)
	}
	if e := s.Close(open); e != api.OK {
		t.Errorf("P15: Close = %d", e)
	}
	noSession(t, s, open)
	noConnect(t, s)
}

func noConnect(t *testing.T, s *orchard.Server) {
	t.Helper()
	if n, e := s.Connect(); n != 0 || e != api.ErrDown {
		t.Errorf("P15: Connect = %d, %d, want ErrDown", n, e)
	}
}

// labour: frames of one session with changes of each kind; what does not go well, and what only looks, stands between.
func labour() []string {
	return []string{
		request(api.Ping, 1, ""),
		request(api.Create, 2, making("/a", "x", "n")),
		request(api.Create, 3, making("/a", "", "")), // ErrExists
		request(api.List, 4, looking("/a", watch)),
		request(api.Create, 5, making("/a/b", fullData, fullNote)),
		request(api.Get, 6, looking("/a/b", watch)),
		request(api.Set, 7, setting("/a/b", "y", 0)),
		request(api.Delete, 8, deleting("/a", -1)), // ErrChildren
		request(api.Delete, 9, deleting("/a/b", 1)),
		request(api.Set, 10, setting("/", "top", -1)),
		request(api.Exists, 11, looking("/c", watch)), // ErrNone
		request(api.Create, 12, making("/c", "", "")),
		request(api.Get, 13, looking("/c", noWatch)),
	}
}

// labourChanges: how many changes are among them.
const labourChanges = 6

// ahead: of frames of a session, how many stand ahead of the change behind the number; all, if there is none.
func ahead(frames []string, number int) int {
	m := newModel()
	m.connect()
	m.feed(1, counted(four(2)))
	for i, f := range frames {
		m.feed(1, f)
		if m.number > number {
			return i
		}
	}
	return len(frames)
}

// watched: a server and a model with two sessions that watch much, one that is at fault, one that was sent half a frame, and one of version 2, which is told.
func watched(t *testing.T, d *api.Disk) (*pair, int) {
	t.Helper()
	p := pairOn(t, d, newModel())
	for version := 1; version <= 2; version++ {
		n := p.connect()
		p.feed(n, counted(four(version)))
		for _, path := range []string{"/", "/a", "/a/b", "/c"} {
			p.feed(n, request(api.Exists, 1, looking(path, watch))+request(api.List, 2, looking(path, watch)))
		}
	}
	p.feed(p.connect(), counted(four(0)))
	p.feed(p.connect(), counted(four(1))+request(api.Create, 1, making1("/half", ""))[:9])
	n := p.connect()
	p.feed(n, counted(four(2)))
	return p, n
}

// feedUntilDown feeds pieces, and tells how many of them were OK; behind the first that is not, all are ErrDown.
func feedUntilDown(t *testing.T, s *orchard.Server, n int, pieces []string) int {
	t.Helper()
	fine := 0
	for i, b := range pieces {
		e := s.Feed(n, []byte(b))
		if e == api.OK && fine == i {
			fine++
		} else if e != api.ErrDown {
			t.Fatalf("P15: Feed of piece %d is %d, and %d were OK", i, e, fine)
		}
	}
	return fine
}

// wholePieces: how many of the pieces end ahead of the end of so many bytes.
func wholePieces(pieces []string, size int) int {
	n := 0
	for n < len(pieces) && len(pieces[n]) < size {
		size -= len(pieces[n])
		n++
	}
	return n
}

// stopAtWork lets the disk stop behind so many steps of a session's work, which comes in pieces, and tells how many changes were done.
func stopAtWork(t *testing.T, steps int, frames []string, cut func(string) []string) int {
	t.Helper()
	d, h := api.NewDisk()
	p, n := watched(t, d)
	h.Stop(steps)
	pieces := cut(strings.Join(frames, ""))
	fine := feedUntilDown(t, p.s, n, pieces)
	done, _ := p.s.Tree()
	whole := ahead(frames, done)
	want := len(pieces)
	if done < labourChanges {
		want = wholePieces(pieces, len(strings.Join(frames[:whole+1], "")))
	}
	if fine != want {
		t.Fatalf("P15: with %d steps, and %d changes done, %d pieces were OK, want %d", steps, done, fine, want)
	}
	p.m.feed(n, strings.Join(frames[:whole], ""))
	p.mustBeSame()
	if done < labourChanges {
		for open := range n {
			mustBeDown(t, p.s, open+1, done, p.m.tree())
		}
	}
	return done
}

// The disk stops at each step of a Feed: what came out of the frames ahead of the change that could not be made safe is there, and nothing of it or of anything behind it, for anybody.
func TestTheDiskStopsInAFeed(t *testing.T) {
	cuts := []func(string) []string{
		func(s string) []string { return []string{s} },
		func(s string) []string { return strings.Split(s, "") },
		drawer{rand.New(rand.NewSource(1))}.pieces,
	}
	for _, end := range []string{"", four(1001), counted(""), request(api.Ping, -1, ""), four(8) + "half"} {
		for _, cut := range cuts {
			last, most := 0, 4*labourChanges
			for steps := range most + 1 {
				done := stopAtWork(t, steps, append(labour(), end), cut)
				if done < last || steps == 0 && done > 0 || steps == most && done < labourChanges {
					t.Fatalf("P15: with %d steps %d changes are done, and with one less %d", steps, done, last)
				}
				last = done
			}
		}
	}
}

// A disk that is stopped brings a server down at its next change only.
func TestAServerOnAStoppedDisk(t *testing.T) {
	s, h := lasting(t)
	a := greeted(t, s, 2)
	h.Stop(0)
	b := greeted(t, s, 1)
	for _, c := range []*client{a, b} {
		c.ask(api.Ping, "", 0, "")
		c.ask(api.List, looking("/", watch), 0, names())
		c.fail(api.Delete, deleting("/", 0), 0, api.ErrRoot)
		c.fail(api.Set, setting("/", "", 5), 0, api.ErrVersion)
	}
	if e := s.Feed(a.n, []byte(request(api.Set, 1, setting("/", "x", -1)))); e != api.ErrDown {
		t.Errorf("P15: Feed = %d, want ErrDown", e)
	}
	a.get("")
	mustBeDown(t, s, b.n, 0, root())
}

// downed: a server that is down, with all sessions open that may be; by a change, or by a Snapshot.
func downed(t *testing.T, bySnapshot bool) (*orchard.Server, []*client) {
	t.Helper()
	s, h := lasting(t)
	var l []*client
	for range api.MaxSessions {
		l = append(l, greeted(t, s, 2))
	}
	l[0].ask(api.Create, making("/a", "data", "note"), 1, counted("/a"))
	l[1].send(l[1].request(api.Get, looking("/a", watch)))
	l[2].send(l[2].request(api.List, looking("/", watch)))
	h.Stop(0)
	var e api.Errno
	if bySnapshot {
		e = s.Snapshot()
	} else {
		e = s.Feed(l[3].n, []byte(request(api.Set, 1, setting("/a", "y", -1))))
	}
	if e != api.ErrDown {
		t.Fatalf("P15, P18: on a disk that is stopped: %d, want ErrDown", e)
	}
	return s, l
}

// What had come out can be taken, once, from a server that is down; the sessions can be closed, and the tree stays.
func TestAServerThatIsDown(t *testing.T) {
	want := []node{{Path: "/"}, {Path: "/a", Data: "data", Note: "note", Made: 1, Changed: 1}}
	for _, bySnapshot := range []bool{false, true} {
		s, l := downed(t, bySnapshot)
		noConnect(t, s) // and not ErrMany
		l[1].get(answer(1, 1, api.OK, counted("data")+counted("note")+state(1, 1, 0, 0)))
		l[2].get(answer(1, 1, api.OK, names("a")))
		for _, c := range l {
			c.get("")
			mustBeDown(t, s, c.n, 1, want)
		}
	}
}

// Whatever a server that is down is asked, it stays so, and nothing comes out.
func TestAServerStaysDown(t *testing.T) {
	for _, bySnapshot := range []bool{false, true} {
		s, l := downed(t, bySnapshot)
		for _, c := range l {
			c.s.Take(c.n)
		}
		for _, frame := range append(manyRequests(2), four(1001), counted(""), "\x00") {
			for _, c := range l {
				if e := s.Feed(c.n, []byte(frame)); e != api.ErrDown {
					t.Fatalf("P15: Feed(%d, %x) = %d, want ErrDown", c.n, frame, e)
				}
				c.get("")
			}
		}
		if e := s.Snapshot(); e != api.ErrDown {
			t.Errorf("P15: Snapshot = %d, want ErrDown", e)
		}
	}
}
