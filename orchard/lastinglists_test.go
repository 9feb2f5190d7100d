package orchard_test

import (
	"math"
	"strings"
	"testing"

	"orchard/api"
	"orchard/orchard"
)

// Tests of P1, P2 and P17, of servers on disks that stop and crash: what is handed in, what comes out, and what is there no more.

// crowded: a server with all sessions open that may be, each of which watches, has something to be taken, and was sent half a frame.
func crowded(t *testing.T, d *api.Disk) (*orchard.Server, []*client) {
	t.Helper()
	s := serverOn(t, d)
	var l []*client
	for range api.MaxSessions {
		c := greeted(t, s, 2)
		for _, path := range []string{"/", "/a"} {
			c.send(c.request(api.Exists, looking(path, watch)) + c.request(api.Get, looking(path, watch)) + c.request(api.List, looking(path, watch)))
		}
		c.send(request(api.Ping, 1, "")[:7])
		l = append(l, c)
	}
	return s, l
}

// mustBeBare: a server has neither sessions nor watches: the numbers begin anew, each session with its Hello, and nobody is told of a change.
func mustBeBare(t *testing.T, s *orchard.Server, number int) {
	t.Helper()
	for n := range api.MaxSessions + 2 {
		noSession(t, s, n)
	}
	var l []*client
	for i := range api.MaxSessions {
		c := connect(t, s)
		if c.n != i+1 {
			t.Errorf("P17: session %d of a new server has the number %d", i+1, c.n)
		}
		c.get("")
		c.send(counted(four(1)))
		c.get(counted(four(1)))
		l = append(l, c)
	}
	if n, e := s.Connect(); n != 0 || e != api.ErrMany {
		t.Errorf("P12: one session more: %d, %d, want ErrMany", n, e)
	}
	l[7].ask(api.Create, making1("/a", ""), number+1, counted("/a"))
	l[6].ask(api.Set, setting("/", "x", -1), number+2, state(0, number+2, number+1, 1))
	l[5].ask(api.Delete, deleting("/a", -1), number+3, "")
	quiet(l...)
}

func TestNoSessionsAndNoWatchesBehindNew(t *testing.T) {
	d, _ := api.NewDisk()
	crowded(t, d)
	mustBeBare(t, serverOn(t, d), 0)
	for _, steps := range []int{0, 1, -1} {
		for _, keep := range []int{0, 9, all} {
			for _, snapshot := range []bool{false, true} {
				d, h := api.NewDisk()
				s, l := crowded(t, d)
				if snapshot && s.Snapshot() != api.OK {
					t.Fatal("P18: Snapshot is not OK")
				}
				h.Stop(steps)
				l[2].s.Feed(l[2].n, []byte(request(api.Ping, 1, "")[7:]+request(api.Set, 1, setting("/", "lost or not", -1))))
				left, _ := h.Crash(keep)
				x := serverOn(t, left)
				number, _ := x.Tree()
				if number > 1 || steps < 0 && number < 1 {
					t.Fatalf("P17: with %d steps, and %d kept, the number is %d", steps, keep, number)
				}
				mustBeBare(t, x, number)
			}
		}
	}
}

// The bytes of a Feed stay as they are, and none is kept, at whichever of its steps the disk stops; not even on the disk.
func TestWhatIsFedWhileTheDiskStopsStays(t *testing.T) {
	h := newHistory(3)
	in := strings.Join(h.frames, "")
	for steps := range 8 {
		for _, keep := range []int{0, 9, all} {
			s, hand := lasting(t)
			n := greeted(t, s, 2).n
			hand.Stop(steps)
			feedAndFill(t, s, n, in)
			number, _ := s.Tree()
			mustTree(t, s, number, h.trees[number])
			if number < len(h.frames) {
				feedAndFill(t, s, n, in)
			}
			feedAndFill(t, s, 99, in)
			left, _ := hand.Crash(keep)
			x := serverOn(t, left)
			again, l := x.Tree()
			if again < number || again > number+1 || !sameNodes(l, h.trees[again]) {
				t.Errorf("P2, P17: with %d steps, and %d kept, the tree is %d, %+v", steps, keep, again, l)
			}
		}
	}
}

// What a server that is down tells is the caller's alone, too.
func TestWhatAServerThatIsDownTellsIsNew(t *testing.T) {
	want := []node{{Path: "/"}, {Path: "/a", Data: "data", Note: "note", Made: 1, Changed: 1}}
	s, l := downed(t, false)
	_, x := s.Tree()
	_, y := s.Tree()
	fillNodes(x)
	if !sameNodes(y, want) {
		t.Errorf("P2: two answers of Tree share memory: %+v", y)
	}
	mustTree(t, s, 1, want)
	b, _ := s.Take(l[1].n)
	fill(b)
	l[1].get("")
	l[2].get(answer(1, 1, api.OK, names("a")))
	mustTree(t, s, 1, want)
}

// What a server has told is not what the next one on its disk tells.
func TestWhatServersOnOneDiskTellIsNew(t *testing.T) {
	d, _ := api.NewDisk()
	s := serverOn(t, d)
	c := greeted(t, s, 2)
	c.ask(api.Create, making("/a", "data", "note"), 1, counted("/a"))
	want := []node{{Path: "/"}, {Path: "/a", Data: "data", Note: "note", Made: 1, Changed: 1}}
	_, x := s.Tree()
	o := serverOn(t, d)
	_, y := o.Tree()
	fillNodes(x)
	mustTree(t, o, 1, want)
	fillNodes(y)
	mustTree(t, o, 1, want)
	mustTree(t, serverOn(t, d), 1, want)
}

// A disk that stops is nothing to a server on another; nor is what happens on that which a crash has left.
func TestDisksHaveNothingToDoWithOneAnother(t *testing.T) {
	s, h := lasting(t)
	o, _ := lasting(t)
	a, b := greeted(t, s, 1), greeted(t, o, 1)
	a.ask(api.Create, making1("/a", ""), 1, counted("/a"))
	left, hand := h.Crash(all)
	x := serverOn(t, left)
	c := greeted(t, x, 1)
	a.ask(api.Set, setting("/a", "first", 0), 2, state(1, 2, 1, 0))
	c.ask(api.Delete, deleting("/a", 0), 2, "")
	h.Stop(0)
	if e := s.Feed(a.n, []byte(request(api.Set, 9, setting("/a", "", -1)))); e != api.ErrDown {
		t.Errorf("P15: Feed = %d, want ErrDown", e)
	}
	b.ask(api.Create, making1("/b", ""), 1, counted("/b"))
	c.ask(api.Create, making1("/c", ""), 3, counted("/c"))
	for _, other := range []*orchard.Server{o, x} {
		if e := other.Snapshot(); e != api.OK {
			t.Errorf("P2: Snapshot beside a server that is down = %d", e)
		}
		connect(t, other)
	}
	mustTree(t, s, 2, []node{{Path: "/"}, {Path: "/a", Data: "first", Made: 1, Changed: 2, Version: 1}})
	mustTree(t, o, 1, []node{{Path: "/"}, {Path: "/b", Made: 1, Changed: 1}})
	mustLast(t, hand, 3, []node{{Path: "/"}, {Path: "/c", Made: 3, Changed: 3}})
	mustLast(t, h, 2, []node{{Path: "/"}, {Path: "/a", Data: "first", Made: 1, Changed: 2, Version: 1}})
}

// Calls at all numbers, and bytes of any length, end and do not panic where the server is down; ErrSession comes ahead of ErrDown.
func TestAServerThatIsDownAtAnyInput(t *testing.T) {
	for _, bySnapshot := range []bool{false, true} {
		s, l := downed(t, bySnapshot)
		for _, n := range []int{math.MinInt64, -1 << 32, -1, 0, api.MaxSessions + 1, 1 << 32, 1<<32 + 1, math.MaxInt64} {
			noSession(t, s, n)
		}
		for _, in := range []string{"", "\x00", strings.Repeat("\x00", 1<<20), strings.Repeat("\xff", 1<<20), strings.Repeat(request(api.Ping, 1, ""), 1<<14)} {
			if e := s.Feed(l[0].n, []byte(in)); e != api.ErrDown {
				t.Errorf("P15: Feed of %d bytes = %d, want ErrDown", len(in), e)
			}
		}
		if e := s.Feed(l[0].n, nil); e != api.ErrDown {
			t.Errorf("P15: Feed of nil = %d, want ErrDown", e)
		}
		l[0].get("")
	}
}

// A Feed of a great many changes is cut short as well.
func TestTheDiskStopsInALongFeed(t *testing.T) {
	for _, steps := range []int{0, 1, 2, 777, 1500} {
		s, h := lasting(t)
		n := greeted(t, s, 1).n
		h.Stop(steps)
		in := strings.Repeat(request(api.Set, 1, setting("/", "x", -1)), 2000)
		if e := s.Feed(n, []byte(in)); e != api.ErrDown {
			t.Errorf("P15: with %d steps Feed = %d, want ErrDown", steps, e)
		}
		number, _ := s.Tree()
		if number > steps {
			t.Errorf("P15: with %d steps %d changes are done", steps, number)
		}
		want := ""
		for i := range number {
			want += answer(1, i+1, api.OK, state(0, i+1, i+1, 0))
		}
		if b, e := s.Take(n); string(b) != want || e != api.OK {
			t.Errorf("P15: with %d steps %d bytes came out, want %d", steps, len(b), len(want))
		}
	}
}
