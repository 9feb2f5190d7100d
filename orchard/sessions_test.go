package orchard_test

import (
	"math"
	"strings"
	"testing"

	"orchard/api"
	"orchard/orchard"
)

// Tests of P11 and P12: New, Connect, Take, Close.

func TestNew(t *testing.T) {
	if s, e := orchard.New(nil); s != nil || e != api.ErrArg {
		t.Errorf("P11: New(nil) = %v, %d, want ErrArg", s, e)
	}
	if s, e := orchard.New(&api.Disk{}); s != nil || e != api.ErrArg {
		t.Errorf("P11: New of what is no disk = %v, %d, want ErrArg", s, e)
	}
	s := newServer(t)
	mustTree(t, s, 0, root())
	noSession(t, s, 0, 1, 2)
}

func TestNewOnADiskThatIsStopped(t *testing.T) {
	d, h := api.NewDisk()
	h.Stop(0)
	if s, e := orchard.New(d); s != nil || e != api.ErrDown {
		t.Errorf("P11: New on a disk that is stopped = %v, %d, want ErrDown", s, e)
	}
}

// noSession: no session of these numbers is open.
func noSession(t *testing.T, s *orchard.Server, numbers ...int) {
	t.Helper()
	for _, n := range numbers {
		b, e := s.Take(n)
		if b != nil || e != api.ErrSession {
			t.Errorf("P12: Take(%d) = %x, %d, want ErrSession", n, b, e)
		}
		if e := s.Close(n); e != api.ErrSession {
			t.Errorf("P12: Close(%d) = %d, want ErrSession", n, e)
		}
		for _, b := range []string{"", counted(four(2)), four(1001)} {
			if e := s.Feed(n, []byte(b)); e != api.ErrSession {
				t.Errorf("P13: Feed(%d, %x) = %d, want ErrSession", n, b, e)
			}
		}
	}
}

func TestNumbersOfSessions(t *testing.T) {
	s := newServer(t)
	for i := 1; i <= api.MaxSessions; i++ {
		noSession(t, s, i, i+1)
		if c := connect(t, s); c.n != i {
			t.Errorf("P12: session %d has the number %d", i, c.n)
		}
	}
	for range 3 {
		if n, e := s.Connect(); n != 0 || e != api.ErrMany {
			t.Errorf("P12: one session more: %d, %d, want ErrMany", n, e)
		}
	}
	next := api.MaxSessions
	for _, n := range []int{3, 8, 1, 9, 10} { // a number comes once only, whichever was closed
		if e := s.Close(n); e != api.OK {
			t.Errorf("P12: Close(%d) = %d", n, e)
		}
		noSession(t, s, n)
		next++
		if c := connect(t, s); c.n != next {
			t.Errorf("P12: the next session has the number %d, want %d", c.n, next)
		}
		if n, e := s.Connect(); n != 0 || e != api.ErrMany {
			t.Errorf("P12: one session more: %d, %d, want ErrMany", n, e)
		}
	}
	noSession(t, s, 0, -1, 1, 3, 8, 9, 10, 14, 1<<32+2, 1<<62, math.MaxInt64, math.MinInt64)
}

func TestManySessionsOneBehindTheOther(t *testing.T) {
	s := newServer(t)
	for i := range 1000 {
		c := greeted(t, s, 1+i%2)
		if c.n != i+1 {
			t.Fatalf("P12: session %d has the number %d", i+1, c.n)
		}
		c.close()
	}
	noSession(t, s, 1, 500, 1000, 1001)
}

// All that came out, and nothing twice.
func TestTake(t *testing.T) {
	s := newServer(t)
	c := connect(t, s)
	c.get("")
	c.get("")
	c.send(counted(four(2)))
	c.send(request(api.Ping, 1, "") + request(api.Ping, 2, ""))
	c.send(request(api.Ping, 3, ""))
	c.get(counted(four(2)) + answer(1, 0, 0, "") + answer(2, 0, 0, "") + answer(3, 0, 0, ""))
	c.get("")
	c.send(request(api.Ping, 4, ""))
	c.get(answer(4, 0, 0, ""))
	c.get("")
}

func TestCloseForgetsWhatWasNotTaken(t *testing.T) {
	s := newServer(t)
	c := greeted(t, s, 2)
	c.send(request(api.Ping, 1, "") + "\x00\x00")
	c.close()
	noSession(t, s, c.n)
	d := connect(t, s)
	d.get("")
	d.send(counted(four(1))) // the piece of the other's frame is not ahead of this
	d.get(counted(four(1)))
}

// A session that is closed watches nothing; the others go on.
func TestCloseEndsWatches(t *testing.T) {
	s := newServer(t)
	a, b, c := greeted(t, s, 2), greeted(t, s, 2), greeted(t, s, 2)
	for _, x := range []*client{b, c} {
		x.ask(api.List, looking("/", watch), 0, names())
		x.fail(api.Exists, looking("/a", watch), 0, api.ErrNone)
	}
	b.close()
	d := greeted(t, s, 2)
	a.ask(api.Create, making("/a", "", ""), 1, counted("/a"))
	c.get(event(1, api.Created, "/a") + event(1, api.Children, "/"))
	d.get("")
	noSession(t, s, b.n)
}

// What a session has changed stays when it is closed.
func TestCloseLeavesTheTree(t *testing.T) {
	s := newServer(t)
	c := greeted(t, s, 2)
	c.ask(api.Create, making("/a", "x", "y"), 1, counted("/a"))
	c.close()
	mustTree(t, s, 1, []node{{Path: "/"}, {Path: "/a", Data: "x", Note: "y", Made: 1, Changed: 1}})
}

func TestHello(t *testing.T) {
	for version, want := range map[int]int{1: 1, 2: 2, 3: 2, 7: 2, 256: 2, 1 << 30: 2, math.MaxInt32: 2} {
		c := connect(t, newServer(t))
		c.send(counted(four(version)))
		c.get(counted(four(want)))
		fields := making1("/a", "x") // of version 1
		if want == 2 {
			fields += counted("note")
		}
		c.ask(api.Create, fields, 1, counted("/a"))
	}
}

// Each session has its own version.
func TestVersionsOfSessions(t *testing.T) {
	s := newServer(t)
	one, two := greeted(t, s, 1), greeted(t, s, 2)
	two.ask(api.Create, making("/a", "x", "note"), 1, counted("/a"))
	one.ask(api.Create, making1("/b", "y"), 2, counted("/b"))
	one.ask(api.Get, looking("/a", noWatch), 2, counted("x")+state(1, 1, 0, 0))
	two.ask(api.Get, looking("/a", noWatch), 2, counted("x")+counted("note")+state(1, 1, 0, 0))
	two.ask(api.Get, looking("/b", noWatch), 2, counted("y")+counted("")+state(2, 2, 0, 0))
	one.ask(api.Set, setting("/a", "z", 0), 3, state(1, 3, 1, 0)) // the note stays
	two.ask(api.Get, looking("/a", noWatch), 3, counted("z")+counted("note")+state(1, 3, 1, 0))
}

// Beside an error New answers no server; a call on that does not panic.
func TestCallsOnNoServer(t *testing.T) {
	s, _ := orchard.New(nil)
	if n, e := s.Connect(); n != 0 || e != api.ErrDown {
		t.Errorf("P1: Connect = %d, %d", n, e)
	}
	if n, l := s.Tree(); n != 0 || l != nil {
		t.Errorf("P1: Tree = %d, %+v", n, l)
	}
	if e := s.Snapshot(); e != api.ErrDown {
		t.Errorf("P1: Snapshot = %d", e)
	}
	noSession(t, s, 0, 1)
}

func TestTheFifthExample(t *testing.T) {
	c := connect(t, newServer(t))
	c.send("\x00\x00\x00\x04\x00\x00\x00\x07")
	c.get("\x00\x00\x00\x04\x00\x00\x00\x02")
	create := "\x00\x00\x00\x17\x00\x00\x00\x01\x00\x00\x00\x05\x00\x00\x00\x02/a\x00\x00\x00\x01x\x00\x00\x00\x00"
	if create != request(api.Create, 5, making("/a", "x", "")) {
		t.Errorf("the test's own request is %x", request(api.Create, 5, making("/a", "x", "")))
	}
	c.send(create)
	c.get("\x00\x00\x00\x16\x00\x00\x00\x05\x00\x00\x00\x00\x00\x00\x00\x01\x00\x00\x00\x00\x00\x00\x00\x02/a")
	c.send(create)
	c.get("\x00\x00\x00\x10\x00\x00\x00\x05\x00\x00\x00\x00\x00\x00\x00\x01\x00\x00\x00\x09")
}

func TestTheSixthExample(t *testing.T) {
	s := newServer(t)
	a := greeted(t, s, 2)
	a.ask(api.Create, making("/a", "x", ""), 1, counted("/a"))
	b := greeted(t, s, 1)
	b.send(request(api.Get, 1, looking("/a", watch)))
	b.get("\x00\x00\x00\x2d\x00\x00\x00\x01\x00\x00\x00\x00\x00\x00\x00\x01\x00\x00\x00\x00\x00\x00\x00\x01x" +
		"\x00\x00\x00\x00\x00\x00\x00\x01\x00\x00\x00\x00\x00\x00\x00\x01" + strings.Repeat("\x00", 8))
	a.mark = 5
	a.ask(api.Set, setting("/a", "y", 0), 2, state(1, 2, 1, 0))
	b.get("\x00\x00\x00\x1a\xff\xff\xff\xff\x00\x00\x00\x00\x00\x00\x00\x02\x00\x00\x00\x00\x00\x00\x00\x03\x00\x00\x00\x02/a")
	a.ask(api.Set, setting("/a", "y", 1), 3, state(1, 3, 2, 0))
	b.get("")
}

func TestTheSeventhExample(t *testing.T) {
	s := newServer(t)
	greeted(t, s, 2).ask(api.Create, making("/a", "", ""), 1, counted("/a"))
	told := "\x00\x00\x00\x10\xff\xff\xff\xfe\x00\x00\x00\x00\x00\x00\x00\x01\x00\x00\x00"
	low, long, mark := connect(t, s), connect(t, s), greeted(t, s, 1)
	low.send("\x00\x00\x00\x04\x00\x00\x00\x00")
	low.get(told + "\x01")
	long.send("\x00\x00\x03\xe9")
	long.get(told + "\x02")
	mark.send("\x00\x00\x00\x08\x00\x00\x00\x07\xff\xff\xff\xff")
	mark.get(told + "\x03")
	for _, c := range []*client{low, long, mark} {
		c.send(counted(four(2)) + request(api.Ping, 1, ""))
		c.get("")
	}
}
