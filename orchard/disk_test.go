package orchard_test

import (
	"math/rand"
	"testing"

	"orchard/api"
	"orchard/orchard"
)

// Tests of P11, P15, P17 and P18: what has to do with the disk.

// lasting: a server on a disk, and the hand of that disk.
func lasting(t *testing.T) (*orchard.Server, *api.Hand) {
	t.Helper()
	d, h := api.NewDisk()
	return serverOn(t, d), h
}

// mustLast: of a disk that crashes now, whatever of the bytes that are not safe is kept, the tree is this one.
func mustLast(t *testing.T, h *api.Hand, number int, nodes []node) {
	t.Helper()
	for _, keep := range []int{0, 1, 1 << 20} {
		d, _ := h.Crash(keep)
		mustTree(t, serverOn(t, d), number, nodes)
	}
}

// Ahead of what comes out, the change is safe: behind each answer the disk may crash.
func TestChangesAreSafe(t *testing.T) {
	for seed := range 10 {
		draw := drawer{rand.New(rand.NewSource(int64(seed)))}
		d, h := api.NewDisk()
		p := pairOn(t, d, newModel())
		n := p.connect()
		p.feed(n, counted(four(2)))
		for range 80 {
			p.feed(n, draw.request(2))
			p.mustBeSame()
			mustLast(t, h, p.m.number, p.m.tree())
			if draw.Intn(20) == 0 {
				if e := p.s.Snapshot(); e != api.OK {
					t.Fatalf("P18: Snapshot = %d", e)
				}
				mustLast(t, h, p.m.number, p.m.tree())
			}
		}
	}
}

// A server that comes behind another has its tree; no sessions, no watches.
func TestAServerBehindAnother(t *testing.T) {
	d, _ := api.NewDisk()
	want := root()
	for i := range 5 {
		s := serverOn(t, d)
		noSession(t, s, 1, 2)
		mustTree(t, s, 2*i, want)
		a := greeted(t, s, 2)
		if a.n != 1 {
			t.Errorf("P12: the first session has the number %d", a.n)
		}
		p := "/" + string(rune('a'+i))
		a.fail(api.Exists, looking("/z", watch), 2*i, api.ErrNone)
		a.ask(api.Create, making(p, "x", "n"), 2*i+1, counted(p))
		a.ask(api.Set, setting(p, "y", 0), 2*i+2, state(2*i+1, 2*i+2, 1, 0))
		want = append(want, node{Path: p, Data: "y", Note: "n", Made: 2*i + 1, Changed: 2*i + 2, Version: 1})
		mustTree(t, s, 2*i+2, want)
	}
}

// A snapshot changes nothing: not the tree, not sessions, watches, halves of frames or what was not taken yet.
func TestSnapshotChangesNothing(t *testing.T) {
	for _, snapshots := range []int{0, 1, 3} {
		s, h := lasting(t)
		snap := func() {
			for range snapshots {
				if e := s.Snapshot(); e != api.OK {
					t.Fatalf("P18: Snapshot = %d", e)
				}
			}
		}
		snap()
		mustTree(t, s, 0, root())
		mustLast(t, h, 0, root())
		a, b := greeted(t, s, 2), greeted(t, s, 1)
		b.ask(api.List, looking("/", watch), 0, names())
		create := a.request(api.Create, making("/a", "x", "n"))
		a.send(create[:9])
		snap()
		a.send(create[9:])
		snap()
		want := []node{{Path: "/"}, {Path: "/a", Data: "x", Note: "n", Made: 1, Changed: 1}}
		mustTree(t, s, 1, want)
		mustLast(t, h, 1, want)
		a.get(answer(1, 1, api.OK, counted("/a")))
		b.get(event(1, api.Children, "/"))
		a.ask(api.Create, making("/a/b", "", ""), 2, counted("/a/b"))
		a.ask(api.Delete, deleting("/a/b", 0), 3, "")
		snap()
		a.ask(api.Set, setting("/a", "y", 0), 4, state(1, 4, 1, 0))
		want[1].Data, want[1].Changed, want[1].Version = "y", 4, 1
		mustTree(t, s, 4, want)
		mustLast(t, h, 4, want)
		if n, e := s.Connect(); n != 3 || e != api.OK {
			t.Errorf("P18: Connect behind Snapshot = %d, %d", n, e)
		}
	}
}

// New need not go through the changes one by one: what is on the disk does not grow with them.
func TestSnapshotEndsTheLog(t *testing.T) {
	d, _ := api.NewDisk()
	s := serverOn(t, d)
	c := greeted(t, s, 1)
	sizes := map[int]int{}
	for i := range 100 {
		c.ask(api.Set, setting("/", "x", -1), i+1, state(0, i+1, i+1, 0))
		if i == 0 || i == 99 {
			if e := s.Snapshot(); e != api.OK {
				t.Fatalf("P18: Snapshot = %d", e)
			}
			sizes[i] = len(d.Read("snapshot")) + len(d.Read("log")) + len(d.Read("snapshot.new"))
		}
	}
	if sizes[0] == 0 || sizes[0] != sizes[99] {
		t.Errorf("P18: behind one change the disk has %d bytes, behind a hundred %d", sizes[0], sizes[99])
	}
}

// Where the disk stops meanwhile, be it at the last step, New and Snapshot are ErrDown; what is on the disk is the same tree.
func TestSnapshotOnADiskThatStops(t *testing.T) {
	want := []node{{Path: "/"}, {Path: "/a", Made: 1, Changed: 1}}
	down := 0
	for steps := range 12 {
		d, h := api.NewDisk()
		s := serverOn(t, d)
		a := greeted(t, s, 1)
		a.ask(api.Create, making1("/a", ""), 1, counted("/a"))
		h.Stop(steps)
		e := s.Snapshot()
		if d.Stopped() != (e == api.ErrDown) || e != api.OK && e != api.ErrDown {
			t.Errorf("P18: with %d steps Snapshot = %d", steps, e)
		}
		if e == api.ErrDown {
			down++
			mustBeDown(t, s, a.n, 1, want)
		}
		mustLast(t, h, 1, want)
	}
	if down == 0 || down == 12 {
		t.Errorf("P18: of 12 snapshots %d were ErrDown", down)
	}
}

func TestNewOnADiskThatStops(t *testing.T) {
	want := []node{{Path: "/"}, {Path: "/a", Made: 1, Changed: 1}}
	for steps := range 12 {
		s, h := lasting(t)
		greeted(t, s, 1).ask(api.Create, making1("/a", ""), 1, counted("/a"))
		d, h := h.Crash(0)
		h.Stop(steps)
		s, e := orchard.New(d)
		if d.Stopped() != (e == api.ErrDown) || (s == nil) != (e == api.ErrDown) || e != api.OK && e != api.ErrDown {
			t.Errorf("P11: with %d steps New = %v, %d", steps, s, e)
		}
		mustLast(t, h, 1, want)
	}
}
