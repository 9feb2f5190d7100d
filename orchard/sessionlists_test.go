package orchard_test

import (
	"math"
	"math/rand"
	"strings"
	"testing"

	"orchard/api"
	"orchard/orchard"
)

// Tests of P1 and P2, of the calls of servers: what is handed in, what comes out, and what servers have to do with one another.

// feedAndFill feeds bytes that stand in a greater room, looks whether these are as they were, and writes over all of it.
func feedAndFill(t *testing.T, s *orchard.Server, n int, in string) {
	t.Helper()
	b, room := roomy(in)
	s.Feed(n, b)
	unchanged(t, "Feed", room, in)
	fill(b)
}

func TestWhatSessionsAreSentStaysAndIsNotKept(t *testing.T) {
	for seed := range 20 {
		d := drawer{rand.New(rand.NewSource(int64(seed)))}
		p := newPair(t)
		n := p.connect()
		in := counted(four(1 + seed%2))
		for range 40 {
			in += d.request(1 + seed%2)
		}
		in += d.of("", four(1001), counted(""), four(9)+"half")
		for _, piece := range d.pieces(in) {
			feedAndFill(t, p.s, n, piece)
		}
		p.m.feed(n, in)
		feedAndFill(t, p.s, 99, in)
		feedAndFill(t, p.s, 0, in)
		p.mustBeSame()
	}
}

// What was taken is nobody's but the caller's.
func TestWhatTakeAnswersIsNew(t *testing.T) {
	s := newServer(t)
	a, b := greeted(t, s, 2), greeted(t, s, 2)
	b.ask(api.List, looking("/", watch), 0, names())
	a.send(a.request(api.Create, making("/a", "data", "note")) + a.request(api.Get, looking("/a", watch)))
	x, _ := s.Take(a.n)
	want := string(x)
	a.send(a.request(api.Get, looking("/a", noWatch)))
	if string(x) != want {
		t.Errorf("P2: what was taken is %x now, and was %x", x, want)
	}
	fill(x)
	a.get(answer(3, 1, api.OK, counted("data")+counted("note")+state(1, 1, 0, 0)))
	y, _ := s.Take(b.n)
	fill(y)
	b.ask(api.Get, looking("/a", noWatch), 1, counted("data")+counted("note")+state(1, 1, 0, 0))
	mustTree(t, s, 1, []node{{Path: "/"}, {Path: "/a", Data: "data", Note: "note", Made: 1, Changed: 1}})
}

// Two pieces that were taken one behind the other share no room: long ones, which have much to spare, and short ones.
func TestPiecesThatWereTakenShareNothing(t *testing.T) {
	s := newServer(t)
	c := greeted(t, s, 1)
	var all [][]byte
	var want []string
	for mark := range 60 {
		n := 1 + mark%3*50
		c.send(strings.Repeat(request(api.Ping, mark, ""), n))
		b, _ := s.Take(c.n)
		all = append(all, b)
		want = append(want, strings.Repeat(answer(mark, 0, api.OK, ""), n))
	}
	for i, b := range all {
		fillSpare(b)
		if string(b) != want[i] {
			t.Errorf("P2: what was taken as number %d is %.99x", i, b)
		}
		fill(b)
	}
}

func TestWhatTreeAnswersIsNew(t *testing.T) {
	s := serverOf(t, 9, forest())
	_, x := s.Tree()
	_, y := s.Tree()
	fillNodes(x)
	if !sameNodes(y, forest()) {
		t.Errorf("P2: two answers of Tree share memory: %+v", y)
	}
	mustTree(t, s, 9, forest())
	c := greeted(t, s, 1)
	c.ask(api.Set, setting("/a", "new", -1), 10, state(1, 10, 3, 1))
	c.ask(api.Delete, deleting("/c", -1), 11, "")
	if !sameNodes(y, forest()) {
		t.Errorf("P2: what Tree has answered is changed by a request: %+v", y)
	}
}

// The nodes of a tree rise, however they came; it is one that Save takes.
func TestTreeIsATree(t *testing.T) {
	s := newServer(t)
	c := greeted(t, s, 2)
	for i, p := range []string{"/b", "/a", "/a.", "/a/z", "/a-", "/0", "/a/z/q", "/a0", "/a/y", "/..."} {
		c.ask(api.Create, making(p, "d", "n"), i+1, counted(p))
		n, l := s.Tree()
		if n != i+1 || !isTree(n, l) || len(l) != i+2 {
			t.Fatalf("P16: Tree = %d, %+v", n, l)
		}
		rightFile(t, 2, n, l)
	}
}

// What one server is sent is nothing to another.
func TestServersHaveNothingToDoWithOneAnother(t *testing.T) {
	s, o := newServer(t), newServer(t)
	a, b := greeted(t, s, 2), greeted(t, o, 1)
	b.ask(api.List, looking("/", watch), 0, names())
	a.ask(api.Create, making("/a", "x", ""), 1, counted("/a"))
	b.get("")
	mustTree(t, o, 0, root())
	for range api.MaxSessions - 1 {
		connect(t, s)
	}
	if c := connect(t, o); c.n != 2 {
		t.Errorf("P2: the second session of another server has the number %d", c.n)
	}
	a.send(four(-1))
	a.get(fault(1, api.TooLong))
	a.close()
	b.ask(api.Ping, "", 0, "")
	b.send(request(api.Create, 9, making1("/b", "")))
	b.get(event(1, api.Children, "/") + answer(9, 1, api.OK, counted("/b"))) // the first change of its own
}

// The same again, on another disk, tells the same.
func TestTheSameTellsTheSame(t *testing.T) {
	var first string
	for i := range 20 {
		d := drawer{rand.New(rand.NewSource(3))}
		s := newServer(t)
		var l []*client
		for range api.MaxSessions {
			l = append(l, greeted(t, s, 2))
		}
		for range 400 {
			l[d.Intn(len(l))].send(d.request(2))
		}
		out := ""
		for _, c := range l {
			b, _ := s.Take(c.n)
			out += string(b)
		}
		if i == 0 {
			first = out
		}
		if out != first || len(out) < 1000 {
			t.Fatalf("P13: the same has told %.200x, and then %.200x", first, out)
		}
	}
}

// Calls at all numbers, and bytes of any length, end and do not panic.
func TestServersAtAnyInput(t *testing.T) {
	for _, in := range []string{
		"", "\x00", strings.Repeat("\x00", 1<<20), strings.Repeat("\xff", 1<<20), strings.Repeat(counted(four(1)), 1<<15),
		counted(four(2)) + strings.Repeat(request(api.Ping, 1, ""), 1<<14), counted(four(1)) + four(1001) + strings.Repeat(request(api.Ping, 1, ""), 1<<14),
		counted(four(2)) + strings.Repeat(request(api.Set, 1, setting("/", "x", -1)), 500),
	} {
		p := newPair(t)
		n := p.connect()
		if e := p.s.Feed(n, []byte(in)); e != api.OK {
			t.Errorf("P13: Feed of %d bytes = %d", len(in), e)
		}
		p.m.sessions[n-1].in = "" // the model is slow at long inputs: a frame at a time
		for len(in) > 0 && !p.m.sessions[n-1].ended {
			k := min(len(in), 16)
			p.m.feed(n, in[:k])
			in = in[k:]
		}
		p.mustBeSame()
	}
	s := newServer(t)
	for _, n := range []int{math.MinInt64, -1 << 32, -1, 0, 1, 2, 1 << 32, math.MaxInt64} {
		noSession(t, s, n)
	}
}

func TestNilIsFed(t *testing.T) {
	s := newServer(t)
	c := connect(t, s)
	for range 3 {
		if e := s.Feed(c.n, nil); e != api.OK {
			t.Errorf("P13: Feed(1, nil) = %d", e)
		}
	}
	c.get("")
	c.send(counted(four(1)))
	c.get(counted(four(1)))
}
