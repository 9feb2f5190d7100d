package orchard_test

import (
	"fmt"
	"testing"

	"orchard/api"
	"orchard/orchard"
)

// history: changes one behind the other, each as a frame of version 2, which go well in this order; behind i of them the tree is trees[i].
type history struct {
	frames []string
	trees  [][]node
}

// newHistory: nodes come, are set and go, with data and notes of all lengths; now and then there are many.
func newHistory(changes int) history {
	m := newModel()
	m.connect()
	m.feed(1, counted(four(2)))
	h := history{trees: [][]node{m.tree()}}
	for i := 0; len(h.frames) < changes; i++ {
		p := fmt.Sprintf("/n%d", i%9)
		for _, f := range []string{
			request(api.Create, i, making(p, fullData[:i%41], fullNote[:i%6*2])),
			request(api.Create, i, making(p+"/below", "", "n")),
			request(api.Set, i, setting(p, "\x00\xffdata"[:i%7], -1)),
			request(api.Set, i, setting("/", fmt.Sprint(i), -1)),
			request(api.Delete, i, deleting(fmt.Sprintf("/n%d/below", (i+4)%9), -1)),
			request(api.Delete, i, deleting(fmt.Sprintf("/n%d", (i+4)%9), -1)),
		} {
			m.feed(1, f)
			if m.number == len(h.trees) && len(h.frames) < changes {
				h.frames = append(h.frames, f)
				h.trees = append(h.trees, m.tree())
			}
		}
	}
	return h
}

// scene: a disk, the server on it, a session of that, and how many changes of the history were done there.
type scene struct {
	t    *testing.T
	h    history
	disk *api.Disk
	hand *api.Hand
	s    *orchard.Server
	n    int
	done int
}

func newScene(t *testing.T, h history) *scene {
	t.Helper()
	d, hand := api.NewDisk()
	x := &scene{t: t, h: h, disk: d, hand: hand}
	x.play("n")
	return x
}

// is: the server's tree is that behind so many changes.
func (x *scene) is(s *orchard.Server, number int) bool {
	n, l := s.Tree()
	return n == number && sameNodes(l, x.h.trees[number])
}

// What a scene plays, a letter each.
const (
	aChange    = 'c'
	aFeed      = 'f' // with several changes
	aSnapshot  = 's'
	aNewServer = 'n'
)

// ofFeed is how many changes a Feed with several has.
const ofFeed = 3

// play does what the letters say, on a disk that goes on.
func (x *scene) play(letters string) {
	x.t.Helper()
	for _, letter := range letters {
		if e := x.do(letter); e != api.OK {
			x.t.Fatalf("P13, P17, P18: %c of %s: %d", letter, letters, e)
		}
	}
}

// do does what a letter says, and tells the error; the server has the tree that it must have then.
func (x *scene) do(letter rune) api.Errno {
	x.t.Helper()
	switch letter {
	case aNewServer:
		return x.open(x.done, x.done)
	case aSnapshot:
		return x.snapshot()
	case aFeed:
		return x.feed(ofFeed)
	}
	return x.feed(1)
}

// open makes a server, which has that many changes of the history; it has no sessions.
func (x *scene) open(least, most int) api.Errno {
	x.t.Helper()
	s, e := orchard.New(x.disk)
	if x.disk.Stopped() != (e == api.ErrDown) || (s == nil) != (e == api.ErrDown) || e != api.OK && e != api.ErrDown {
		x.t.Fatalf("P11: New = %v, %d, and the disk is stopped: %t", s, e, x.disk.Stopped())
	}
	if e != api.OK {
		return e
	}
	x.done = least
	if !x.is(s, x.done) {
		x.done = most
	}
	if !x.is(s, x.done) {
		n, l := s.Tree()
		x.t.Fatalf("P17: New has the tree %d, %+v, want that behind %d or %d changes", n, l, least, most)
	}
	noSession(x.t, s, 1)
	x.s, x.n = s, connect(x.t, s).n
	if e := s.Feed(x.n, []byte(counted(four(2)))); e != api.OK || x.n != 1 {
		x.t.Fatalf("P12, P17: the first session has the number %d; its Hello: %d", x.n, e)
	}
	return api.OK
}

func (x *scene) snapshot() api.Errno {
	x.t.Helper()
	e := x.s.Snapshot()
	if x.disk.Stopped() != (e == api.ErrDown) || e != api.OK && e != api.ErrDown || !x.is(x.s, x.done) {
		x.t.Fatalf("P18: Snapshot = %d, and the disk is stopped: %t", e, x.disk.Stopped())
	}
	return e
}

// feed sends that many changes in one piece.
func (x *scene) feed(changes int) api.Errno {
	x.t.Helper()
	in := ""
	for _, f := range x.h.frames[x.done : x.done+changes] {
		in += f
	}
	e := x.s.Feed(x.n, []byte(in))
	least, want := x.done, x.done+changes
	x.done, _ = x.s.Tree()
	if x.done < least || x.done > want || (e == api.OK) != (x.done == want) || e != api.OK && e != api.ErrDown || !x.is(x.s, x.done) {
		x.t.Fatalf("P15: Feed = %d, and of the changes up to %d it has done those up to %d", e, want, x.done)
	}
	return e
}

// crash: the scene on what a crash leaves; nobody has made a server there yet.
func (x *scene) crash(keep int) *scene {
	d, hand := x.hand.Crash(keep)
	return &scene{t: x.t, h: x.h, disk: d, hand: hand, done: x.done}
}
