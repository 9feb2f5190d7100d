package orchard_test

import (
	"testing"

	"orchard/api"
)

// Tests of P13: watches, and of what they tell.

// four sessions on the forest: three that may watch, in the order of their numbers, and one behind them that changes.
func watchers(t *testing.T) (l []*client, x *client) {
	t.Helper()
	s := serverOf(t, 9, forest())
	for version := range 3 {
		l = append(l, greeted(t, s, 1+version%2))
	}
	return l, greeted(t, s, 2)
}

func quiet(l ...*client) {
	for _, c := range l {
		c.t.Helper()
		c.get("")
	}
}

// Get and Exists watch the data; each kind of change of it is told once.
func TestWatchesOfData(t *testing.T) {
	for _, kind := range []int{api.Get, api.Exists} {
		l, x := watchers(t)
		look := func(c *client, path string) {
			c.t.Helper()
			c.send(c.request(kind, looking(path, watch)))
			if b, _ := c.s.Take(c.n); len(b) < 20 || string(b[16:20]) != four(0) {
				c.t.Fatalf("P13: a request of kind %d: %x", kind, b)
			}
		}
		look(l[0], "/a")
		look(l[0], "/a") // as once
		look(l[2], "/a")
		look(l[1], "/a/b")
		look(l[1], "/")
		x.ask(api.Set, setting("/a", "y", -1), 10, state(1, 10, 3, 1))
		l[0].get(event(10, api.Changed, "/a"))
		l[2].get(event(10, api.Changed, "/a"))
		quiet(l...)
		x.ask(api.Set, setting("/a", "z", -1), 11, state(1, 11, 4, 1)) // told already
		quiet(l...)
		x.ask(api.Create, making("/a/c", "", ""), 12, counted("/a/c")) // not the data of its parent
		quiet(l...)
		look(l[2], "/a/c")
		x.ask(api.Delete, deleting("/a/c", 0), 13, "")
		l[2].get(event(13, api.Deleted, "/a/c"))
		x.ask(api.Set, setting("/", "r", -1), 14, state(0, 14, 4, 2))
		l[1].get(event(14, api.Changed, "/"))
		x.ask(api.Delete, deleting("/a/b", 0), 15, "")
		l[1].get(event(15, api.Deleted, "/a/b"))
		quiet(l...)
	}
}

// Who watches by Exists a node that is not there is told when it is made; by Get or List it is not watched.
func TestWatchesOfWhatIsNotThere(t *testing.T) {
	l, x := watchers(t)
	l[0].fail(api.Exists, looking("/n", watch), 9, api.ErrNone)
	l[0].fail(api.Exists, looking("/n", watch), 9, api.ErrNone)
	l[1].fail(api.Get, looking("/n", watch), 9, api.ErrNone)
	l[2].fail(api.List, looking("/n", watch), 9, api.ErrNone)
	l[2].fail(api.Exists, looking("/n/m", watch), 9, api.ErrNone)
	x.ask(api.Create, making("/n", "", ""), 10, counted("/n"))
	l[0].get(event(10, api.Created, "/n"))
	quiet(l...)
	x.ask(api.Create, making("/n/m", "", ""), 11, counted("/n/m"))
	l[2].get(event(11, api.Created, "/n/m"))
	x.ask(api.Set, setting("/n", "", 0), 12, state(10, 12, 1, 1))
	x.ask(api.Delete, deleting("/n/m", 0), 13, "")
	x.ask(api.Delete, deleting("/n", 1), 14, "")
	quiet(l...)
}

// Where the path is none, or the request is another's, nothing is watched.
func TestWhatIsNotWatched(t *testing.T) {
	l, x := watchers(t)
	for i, kind := range []int{api.Get, api.Exists, api.List} {
		l[i].fail(kind, looking("a", watch), 9, api.ErrPath)
		l[i].fail(kind, looking("/a/", watch), 9, api.ErrPath)
	}
	l[0].ask(api.Get, looking("/a", noWatch), 9, counted("x")+state(1, 5, 2, 1))
	l[1].ask(api.Exists, looking("/a", noWatch), 9, state(1, 5, 2, 1))
	l[1].fail(api.Exists, looking("/n", noWatch), 9, api.ErrNone)
	l[2].ask(api.List, looking("/", noWatch), 9, names("a", "c"))
	x.ask(api.Set, setting("/a", "y", 2), 10, state(1, 10, 3, 1))
	x.ask(api.Create, making("/n", "", ""), 11, counted("/n"))
	quiet(l...)
}

// To look without the field watch does not end a watch.
func TestToLookAgainLeavesAWatch(t *testing.T) {
	l, x := watchers(t)
	l[0].ask(api.Get, looking("/a", watch), 9, counted("x")+state(1, 5, 2, 1))
	l[0].ask(api.Get, looking("/a", noWatch), 9, counted("x")+state(1, 5, 2, 1))
	l[0].ask(api.Exists, looking("/a", noWatch), 9, state(1, 5, 2, 1))
	l[0].ask(api.List, looking("/", watch), 9, names("a", "c"))
	l[0].ask(api.List, looking("/", noWatch), 9, names("a", "c"))
	x.ask(api.Set, setting("/a", "y", 2), 10, state(1, 10, 3, 1))
	x.ask(api.Create, making("/n", "", ""), 11, counted("/n"))
	l[0].get(event(10, api.Changed, "/a") + event(11, api.Children, "/"))
}

// List watches the children: who comes and goes among them, and whether their parent goes.
func TestWatchesOfChildren(t *testing.T) {
	l, x := watchers(t)
	l[0].ask(api.List, looking("/", watch), 9, names("a", "c"))
	l[1].ask(api.List, looking("/a", watch), 9, names("b"))
	l[1].ask(api.List, looking("/a", watch), 9, names("b"))
	l[2].ask(api.List, looking("/a", watch), 9, names("b"))
	l[2].ask(api.List, looking("/c", watch), 9, names())
	x.ask(api.Set, setting("/", "", -1), 10, state(0, 10, 4, 2))
	x.ask(api.Set, setting("/a", "", -1), 11, state(1, 11, 3, 1))
	x.ask(api.Set, setting("/a/b", "", -1), 12, state(2, 12, 1, 0))
	quiet(l...) // a Set is no matter of children
	x.ask(api.Create, making("/a/d", "", ""), 13, counted("/a/d"))
	l[1].get(event(13, api.Children, "/a"))
	l[2].get(event(13, api.Children, "/a"))
	quiet(l...)
	x.ask(api.Create, making("/a/e", "", ""), 14, counted("/a/e"))
	quiet(l...)
	l[1].ask(api.List, looking("/a", watch), 14, names("b", "d", "e"))
	x.ask(api.Delete, deleting("/a/e", -1), 15, "")
	l[1].get(event(15, api.Children, "/a"))
	x.ask(api.Delete, deleting("/c", -1), 16, "")
	l[0].get(event(16, api.Children, "/"))
	l[2].get(event(16, api.Deleted, "/c"))
	quiet(l...)
}

// A watch of what was deleted is told, and gone: who makes it again is not told of.
func TestWatchesOfWhatWasDeleted(t *testing.T) {
	l, x := watchers(t)
	l[0].ask(api.Exists, looking("/c", watch), 9, state(4, 8, 1<<31-1, 0))
	l[0].ask(api.List, looking("/c", watch), 9, names())
	x.ask(api.Delete, deleting("/c", -1), 10, "")
	l[0].get(event(10, api.Deleted, "/c") + event(10, api.Deleted, "/c"))
	x.ask(api.Create, making("/c", "", ""), 11, counted("/c"))
	x.ask(api.Create, making("/c/d", "", ""), 12, counted("/c/d"))
	quiet(l...)
}

// To each in this order: the data, the children, the children of the parent.
func TestOrderOfEvents(t *testing.T) {
	l, x := watchers(t)
	for i, c := range []*client{l[2], l[0], l[1]} {
		kinds := [][]int{{6, 1, 0}, {0, 6, 1}, {1, 0, 6}}[i]
		for _, k := range kinds { // in whatever order the watches were set
			switch k {
			case 0:
				c.ask(api.Exists, looking("/c", watch), 9, state(4, 8, 1<<31-1, 0))
			case 1:
				c.ask(api.List, looking("/c", watch), 9, names())
			default:
				c.ask(api.List, looking("/", watch), 9, names("a", "c"))
			}
		}
	}
	x.ask(api.Delete, deleting("/c", -1), 10, "")
	for _, c := range l {
		c.get(event(10, api.Deleted, "/c") + event(10, api.Deleted, "/c") + event(10, api.Children, "/"))
		c.ask(api.List, looking("/", watch), 10, names("a"))
		c.fail(api.Exists, looking("/c", watch), 10, api.ErrNone)
	}
	x.ask(api.Create, making("/c", "", ""), 11, counted("/c"))
	for _, c := range l {
		c.get(event(11, api.Created, "/c") + event(11, api.Children, "/"))
	}
	quiet(l...)
}

// Events come out ahead of what comes out of the request itself, and behind what came out earlier.
func TestEventsAheadOfTheAnswer(t *testing.T) {
	s := newServer(t)
	a, b := greeted(t, s, 2), greeted(t, s, 2)
	b.ask(api.List, looking("/", watch), 0, names())
	a.send(a.request(api.List, looking("/", watch)) + a.request(api.Exists, looking("/a", watch)) + a.request(api.Create, making("/a", "", "")) + a.request(api.Exists, looking("/a", watch)) + a.request(api.Set, setting("/a", "x", 0)) + a.request(api.Set, setting("/a", "y", 1)))
	a.get(answer(1, 0, api.OK, names()) + answer(2, 0, api.ErrNone, "") +
		event(1, api.Created, "/a") + event(1, api.Children, "/") + answer(3, 1, api.OK, counted("/a")) +
		answer(4, 1, api.OK, state(1, 1, 0, 0)) +
		event(2, api.Changed, "/a") + answer(5, 2, api.OK, state(1, 2, 1, 0)) +
		answer(6, 3, api.OK, state(1, 3, 2, 0)))
	b.get(event(1, api.Children, "/"))
}

// A change that does not go well is told to nobody, and ends no watch.
func TestWhatDoesNotGoWellIsNotTold(t *testing.T) {
	l, x := watchers(t)
	l[0].ask(api.Exists, looking("/a", watch), 9, state(1, 5, 2, 1))
	l[0].ask(api.List, looking("/", watch), 9, names("a", "c"))
	l[1].fail(api.Exists, looking("/n/m", watch), 9, api.ErrNone)
	x.fail(api.Set, setting("/a", "", 7), 9, api.ErrVersion)
	x.fail(api.Set, setting("/a", overData, -1), 9, api.ErrData)
	x.fail(api.Delete, deleting("/a", -1), 9, api.ErrChildren)
	x.fail(api.Create, making("/a", "", ""), 9, api.ErrExists)
	x.fail(api.Create, making("/n/m", "", ""), 9, api.ErrNone)
	quiet(l...)
	x.ask(api.Set, setting("/a", "", -1), 10, state(1, 10, 3, 1))
	x.ask(api.Create, making("/n", "", ""), 11, counted("/n"))
	l[0].get(event(10, api.Changed, "/a") + event(11, api.Children, "/"))
	x.ask(api.Create, making("/n/m", "", ""), 12, counted("/n/m"))
	l[1].get(event(12, api.Created, "/n/m"))
}

// All sessions there can be are told; in whatever order they began to watch.
func TestEventsToAllSessions(t *testing.T) {
	s := newServer(t)
	var l []*client
	for range api.MaxSessions {
		l = append(l, greeted(t, s, 1))
	}
	for i := range l {
		l[(i*5+3)%len(l)].ask(api.List, looking("/", watch), 0, names())
	}
	x := l[4]
	x.send(request(api.Create, 77, making1("/a", "")))
	for _, c := range l {
		if c != x {
			c.get(event(1, api.Children, "/"))
		}
	}
	x.get(event(1, api.Children, "/") + answer(77, 1, api.OK, counted("/a")))
}

// Who has not sent its Hello yet, or half a request, is told of nothing it does not watch.
func TestOthersAreToldNothing(t *testing.T) {
	s := newServer(t)
	a, b, c := greeted(t, s, 2), connect(t, s), greeted(t, s, 2)
	half := request(api.List, 5, looking("/", watch))
	c.send(half[:len(half)-1])
	a.ask(api.Create, making("/a", "", ""), 1, counted("/a"))
	quiet(b, c)
	c.send(half[len(half)-1:])
	c.get(answer(5, 1, api.OK, names("a")))
	a.ask(api.Create, making("/b", "", ""), 2, counted("/b"))
	c.get(event(2, api.Children, "/"))
	quiet(b)
}
