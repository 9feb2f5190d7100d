package orchard_test

import (
	"math"
	"strings"
	"testing"

	"orchard/api"
	"orchard/orchard"
)

// Tests of P13: faults.

// grounds: a server whose tree has the number 1, one session that may change it, and one that watches.
func grounds(t *testing.T) (s *orchard.Server, a, b *client) {
	t.Helper()
	s = newServer(t)
	a, b = greeted(t, s, 2), greeted(t, s, 1)
	a.ask(api.Create, making("/a", "x", ""), 1, counted("/a"))
	b.ask(api.Exists, looking("/a", watch), 1, state(1, 1, 0, 0))
	return s, a, b
}

// ends: what a session is sent ends it. What comes behind is not taken in, in the same piece or later; it watches nothing; the others go on.
func ends(t *testing.T, version int, in string, what int) {
	t.Helper()
	s, a, b := grounds(t)
	c := connect(t, s)
	if version > 0 {
		c.send(counted(four(version)))
		c.get(counted(four(version)))
		c.ask(api.Exists, looking("/a", watch), 1, state(1, 1, 0, 0))
		c.ask(api.List, looking("/", watch), 1, names("a"))
	}
	behind := counted(four(2)) + request(api.Ping, 1, "") + request(api.Delete, 1, deleting("/a", -1))
	c.send(in + behind)
	c.get(fault(1, what))
	c.send(behind + four(1001))
	c.send("")
	c.get("")
	a.ask(api.Set, setting("/a", "y", 0), 2, state(1, 2, 1, 0))
	a.ask(api.Create, making("/b", "", ""), 3, counted("/b"))
	b.get(event(2, api.Changed, "/a"))
	c.get("")
	mustTree(t, s, 3, []node{{Path: "/"}, {Path: "/a", Data: "y", Made: 1, Changed: 2, Version: 1}, {Path: "/b", Made: 3, Changed: 3}})
	c.close()
	noSession(t, s, c.n)
}

func TestRefused(t *testing.T) {
	for _, version := range []int{0, -1, -2, -256, math.MinInt32} {
		ends(t, 0, counted(four(version)), api.Refused)
	}
}

func TestAHelloThatIsNone(t *testing.T) {
	for _, body := range []string{"", "\x00", "\x00\x00\x01", four(1) + "\x00", four(0) + "\x00", four(2) + four(2), "\x00" + four(1), four(-1)[:3], eight(1), strings.Repeat("\x00", api.MaxFrame), four(api.Ping) + four(1)} {
		ends(t, 0, counted(body), api.NoSense)
	}
}

func TestTooLong(t *testing.T) {
	for version := 0; version <= api.Newest; version++ {
		for _, n := range []int{api.MaxFrame + 1, 1002, 1024, 1 << 16, 1 << 24, 1<<31 - 1, 1 << 31, -1000, -1} {
			ends(t, version, four(n), api.TooLong)
			ends(t, version, four(n)+strings.Repeat("\x00", 1001), api.TooLong)
		}
		ends(t, version, four(api.MaxFrame)+strings.Repeat("\x00", api.MaxFrame), api.NoSense) // not too long, but nothing
	}
}

// As soon as the four bytes are there, and not sooner.
func TestTooLongAtOnce(t *testing.T) {
	for version := 0; version <= api.Newest; version++ {
		c := connect(t, newServer(t))
		if version > 0 {
			c.send(counted(four(version)))
			c.get(counted(four(version)))
		}
		for _, b := range []string{"\x00", "\x00", "\x03"} {
			c.send(b)
			c.get("")
		}
		c.send("\xe9")
		c.get(fault(0, api.TooLong))
	}
	c := connect(t, newServer(t))
	c.send("\xff\xff\xff")
	c.get("")
	c.send("\xff")
	c.get(fault(0, api.TooLong))
}

// What stands ahead of a fault in the same piece is done.
func TestFramesAheadOfAFault(t *testing.T) {
	for in, what := range map[string]int{four(1001): api.TooLong, counted(""): api.NoSense, request(api.Ping, -1, ""): api.NoSense} {
		s := newServer(t)
		c := connect(t, s)
		c.send(counted(four(1)) + request(api.Create, 3, making1("/a", "")) + in + request(api.Create, 4, making1("/b", "")) + four(-1))
		c.get(counted(four(1)) + answer(3, 1, api.OK, counted("/a")) + fault(1, what))
		mustTree(t, s, 1, []node{{Path: "/"}, {Path: "/a", Made: 1, Changed: 1}})
	}
}

func TestKindsThatThereAreNot(t *testing.T) {
	for version := 1; version <= api.Newest; version++ {
		for _, kind := range []int{0, 8, 9, -1, -2, 255, 256 + api.Ping, 1<<16 + api.Ping, 1<<24 + api.Ping, math.MaxInt32, math.MinInt32} {
			for _, fields := range []string{"", looking("/a", noWatch), making1("/z", ""), making("/z", "", ""), deleting("/a", -1)} {
				ends(t, version, request(kind, 1, fields), api.NoSense)
			}
		}
	}
}

// rightBodies are, of a version, a body of each kind.
func rightBodies(version int) map[int]string {
	l := map[int]string{
		api.Create: making1("/z", "data"), api.Delete: deleting("/a", 0), api.Set: setting("/a", "data", 0),
		api.Get: looking("/a", noWatch), api.Exists: looking("/a", watch), api.List: looking("/a", watch), api.Ping: "",
	}
	if version == 2 {
		l[api.Create] += counted("note")
	}
	return l
}

func TestMarks(t *testing.T) {
	for version := 1; version <= api.Newest; version++ {
		for kind, fields := range rightBodies(version) {
			for _, mark := range []int{-1, -2, -256, math.MinInt32} {
				ends(t, version, request(kind, mark, fields), api.NoSense)
			}
			for _, mark := range []int{0, math.MaxInt32} {
				s, _, _ := grounds(t)
				c := greeted(t, s, version)
				c.send(request(kind, mark, fields))
				if b, _ := s.Take(c.n); len(b) < 20 || string(b[4:8]) != four(mark) || string(b[16:20]) != four(0) {
					t.Errorf("P13: kind %d with the mark %d, in version %d: %x", kind, mark, version, b)
				}
			}
		}
	}
}

// A byte more, or less; whole fields more, or less.
func TestBodiesOfAnotherLength(t *testing.T) {
	for version := 1; version <= api.Newest; version++ {
		for kind, fields := range rightBodies(version) {
			body := four(kind) + four(1) + fields
			for n := range len(body) {
				ends(t, version, counted(body[:n]), api.NoSense)
			}
			for _, more := range []string{"\x00", "\x01", "x", four(0), four(0) + four(0), strings.Repeat("\x00", api.MaxFrame-len(body))} {
				if kind == api.Create && version == 1 && more == four(0) {
					continue // of which the next test tells
				}
				ends(t, version, counted(body+more), api.NoSense)
			}
		}
	}
}

// A body of the one version is none of the other.
func TestCreateOfAnotherVersion(t *testing.T) {
	ends(t, 1, request(api.Create, 1, making("/z", "", "")), api.NoSense)
	ends(t, 1, request(api.Create, 1, making("/z", "x", "note")), api.NoSense)
	ends(t, 2, request(api.Create, 1, making1("/z", "")), api.NoSense)
	ends(t, 2, request(api.Create, 1, making1("/z", "x")), api.NoSense)
}

// A body of one kind is none of another.
func TestBodiesOfAnotherKind(t *testing.T) {
	shapes := map[int]int{api.Get: 1, api.Exists: 1, api.List: 1} // those of one shape are the same
	for version := 1; version <= api.Newest; version++ {
		bodies := rightBodies(version)
		// a version of 0 would be the length of no data, or of no note
		bodies[api.Delete], bodies[api.Set] = deleting("/a", 7), setting("/a", "data", 7)
		for kind := range bodies {
			for other, fields := range bodies {
				if kind != other && (shapes[kind] == 0 || shapes[other] == 0) {
					ends(t, version, request(kind, 1, fields), api.NoSense)
				}
			}
		}
	}
}

func TestFieldsThatAreNone(t *testing.T) {
	long, most := strings.Repeat("x", api.MaxBytes+1), strings.Repeat("x", api.MaxBytes)
	for _, p := range []string{"\xff", "/a\x80", "/\xc0\x80", "/\xed\xa0\x80", "/\xf4\x90\x80\x80", long} {
		for version := 1; version <= api.Newest; version++ {
			ends(t, version, request(api.Delete, 1, deleting(p, 0)), api.NoSense)
			ends(t, version, request(api.Set, 1, setting(p, "", 0)), api.NoSense)
			for _, kind := range []int{api.Get, api.Exists, api.List} {
				ends(t, version, request(kind, 1, looking(p, noWatch)), api.NoSense)
			}
		}
		ends(t, 1, request(api.Create, 1, making1(p, "")), api.NoSense)
		ends(t, 2, request(api.Create, 1, making(p, "", "")), api.NoSense)
		ends(t, 2, request(api.Create, 1, making("/z", "", p)), api.NoSense)
	}
	for version := 1; version <= api.Newest; version++ {
		ends(t, version, request(api.Set, 1, setting("/a", long, 0)), api.NoSense)
		for _, kind := range []int{api.Get, api.Exists, api.List} {
			for _, w := range []string{"\x02", "\x80", "\xff"} {
				ends(t, version, request(kind, 1, looking("/a", w)), api.NoSense)
			}
		}
		c := greeted(t, newServer(t), version)
		c.fail(api.Get, looking(most, noWatch), 0, api.ErrPath)
		c.fail(api.Set, setting("/", most, 0), 0, api.ErrData)
	}
	ends(t, 1, request(api.Create, 1, making1("/z", long)), api.NoSense)
	ends(t, 2, request(api.Create, 1, making("/z", long, "")), api.NoSense)
	ends(t, 2, request(api.Create, 1, making("/z", "", long)), api.NoSense)
	ends(t, 2, request(api.Create, 1, making("/z", overData, "\xff")), api.NoSense) // ahead of ErrData
}

// A session that was ended by a fault is open until it is closed.
func TestASessionAtFaultIsOpen(t *testing.T) {
	s := newServer(t)
	for range api.MaxSessions {
		connect(t, s).send(counted(""))
	}
	if n, e := s.Connect(); n != 0 || e != api.ErrMany {
		t.Errorf("P12: Connect beside sessions at fault = %d, %d, want ErrMany", n, e)
	}
	c := &client{t: t, s: s, n: 3}
	c.get(fault(0, api.NoSense))
	c.get("")
	c.close()
	if c := connect(t, s); c.n != 9 {
		t.Errorf("P12: Connect = %d, want 9", c.n)
	}
}

// What a session has changed, and what it has told others, stays when it is at fault.
func TestAFaultLeavesTheTree(t *testing.T) {
	s, a, b := grounds(t)
	a.send(a.request(api.Set, setting("/a", "y", 0)) + four(-1))
	a.get(answer(a.mark, 2, api.OK, state(1, 2, 1, 0)) + fault(2, api.TooLong))
	b.get(event(2, api.Changed, "/a"))
	b.ask(api.Get, looking("/a", noWatch), 2, counted("y")+state(1, 2, 1, 0))
	mustTree(t, s, 2, []node{{Path: "/"}, {Path: "/a", Data: "y", Made: 1, Changed: 2, Version: 1}})
}
