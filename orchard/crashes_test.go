package orchard_test

import (
	"math/rand"
	"slices"
	"strings"
	"testing"

	"orchard/api"
	"orchard/orchard"
)

// Tests of P17 and P18: a disk that crashes, again and again, at any step; whatever it keeps of what is not safe.

// all is more than there ever is on a disk.
const all = 1 << 20

// words: all words of these letters that are no longer than most.
func words(letters string, most int) []string {
	l := []string{""}
	for from := 0; most > 0; most-- {
		end := len(l)
		for _, w := range l[from:end] {
			for _, letter := range letters {
				l = append(l, w+string(letter))
			}
		}
		from = end
	}
	return l
}

// stopAt does what a letter says while the disk stops behind so many steps; it tells the error, and how many changes may be there behind a crash at most.
func (x *scene) stopAt(steps int, letter rune) (api.Errno, int) {
	x.t.Helper()
	if steps > 50 {
		x.t.Fatalf("%c is not done with 50 steps", letter)
	}
	x.hand.Stop(steps)
	e := x.do(letter)
	if e != api.OK && (letter == aFeed || letter == aChange) {
		return e, x.done + 1
	}
	return e, x.done
}

// mustOpen: New goes well, and tells one of these trees.
func (x *scene) mustOpen(least, most int) {
	x.t.Helper()
	if e := x.open(least, most); e != api.OK {
		x.t.Fatalf("P17: New on what a crash left = %d", e)
	}
}

// mustStay: what New has told is there behind further crashes, and so is what is done behind it.
func (x *scene) mustStay(keep int) {
	x.t.Helper()
	x.crash(keep).mustOpen(x.done, x.done)
	x.mustOpen(x.done, x.done)
	x.play("c")
	x.crash(keep).mustOpen(x.done, x.done)
	x.play("sc")
	x.crash(keep).mustOpen(x.done, x.done)
}

// Whatever was done ahead: the disk stops at each step of a Feed with several changes, of a Snapshot, and of New, and crashes, with each part kept of what was not safe.
func TestACrashAtEachStep(t *testing.T) {
	h := newHistory(20)
	kept := 0
	for _, past := range words("csn", 3) {
		for _, letter := range "fsn" {
			for steps := 0; ; steps++ {
				x := newScene(t, h)
				x.play(past)
				e, most := x.stopAt(steps, letter)
				for _, keep := range []int{-1, 0, 1, 3, 4, 5, 11, 24, 30, 47, 90, 200, all} {
					y := x.crash(keep)
					y.mustOpen(x.done, most)
					if keep <= 0 && y.done != x.done {
						t.Fatalf("P15: behind %s, with %d steps of %c: a change was safe, and was not done", past, steps, letter)
					}
					kept += y.done - x.done
					y.mustStay(keep)
				}
				if e == api.OK {
					break
				}
			}
		}
	}
	if kept < 100 {
		t.Errorf("%d changes were kept that were not made safe", kept)
	}
}

// Of a change that could not be made safe, and of a Snapshot, each number of bytes is kept once.
func TestACrashKeepsAnyPart(t *testing.T) {
	h := newHistory(20)
	for _, past := range []string{"", "ccc", "cs", "ccscc"} {
		for steps := range 6 {
			x, y := newScene(t, h), newScene(t, h)
			x.play(past)
			y.play(past)
			_, most := x.stopAt(steps, aFeed)
			y.stopAt(steps, aSnapshot)
			for keep := range 400 {
				z := x.crash(keep)
				z.mustOpen(x.done, most)
				z.mustStay(0)
				y.crash(keep).mustOpen(y.done, y.done)
			}
		}
	}
}

// keeps: how much of what is not safe is kept where crashes are so deep; fewer of these where they are many.
func keeps(deep int) []int { return []int{9, all, 0}[:deep+1] }

// again lets New stop at each of its steps on what a crash left, and that crash too; so deep.
func (x *scene) again(most int, deep int) {
	x.t.Helper()
	for _, keep := range keeps(deep) {
		for steps := 0; ; steps++ {
			y := x.crash(keep)
			y.hand.Stop(steps)
			if y.open(x.done, most) == api.OK {
				y.crash(0).mustOpen(y.done, y.done)
				break
			}
			if steps > 50 {
				x.t.Fatal("New is not done with 50 steps")
			}
			if deep > 0 {
				y.again(most, deep-1)
			}
		}
	}
}

// A second, a third and a fourth crash, each at some step of New.
func TestNewIsCutShortAgainAndAgain(t *testing.T) {
	h := newHistory(20)
	for _, past := range []string{"", "cc", "cs", "ccsc"} {
		for _, letter := range "fsn" {
			for steps := 0; ; steps++ {
				x := newScene(t, h)
				x.play(past)
				e, most := x.stopAt(steps, letter)
				x.again(most, 2)
				if e == api.OK {
					break
				}
			}
		}
	}
}

// further lets a crash come, a server be there again, and the disk stop at each step of what that does; so deep.
func (x *scene) further(most int, deep int) {
	x.t.Helper()
	for _, keep := range keeps(deep) {
		for _, letter := range "csn" {
			for steps := 0; ; steps++ {
				y := x.crash(keep)
				y.mustOpen(x.done, most)
				e, more := y.stopAt(steps, letter)
				y.crash(keep).mustOpen(y.done, more)
				if deep > 0 {
					y.further(more, deep-1)
				}
				if e == api.OK {
					break
				}
			}
		}
	}
}

// What was told once stays so behind a second and a third crash, whatever is done between them.
func TestWhatWasToldStays(t *testing.T) {
	h := newHistory(20)
	for _, past := range []string{"", "cc", "ccsc"} {
		x := newScene(t, h)
		x.play(past)
		x.further(x.done, 2)
	}
}

// A tree of all the nodes that may be, and one with a long history, are there again too.
func TestGreatTreesLast(t *testing.T) {
	h := newHistory(300)
	most := 0
	for _, l := range h.trees {
		most = max(most, len(l))
	}
	if most < 10 {
		t.Fatalf("the history's trees have %d nodes at most", most)
	}
	x := newScene(t, h)
	x.play(strings.Repeat("c", 290))
	x.crash(0).mustOpen(290, 290)
	x.play("sc")
	x.crash(0).mustOpen(291, 291)

	s, hand := lasting(t)
	c := greeted(t, s, 2)
	want := full()
	for i := range want[1:] {
		n := &want[i+1]
		c.ask(api.Create, making(n.Path, n.Data, n.Note), i+1, counted(n.Path))
		n.Made, n.Changed, n.Version = i+1, i+1, 0
	}
	want[0] = node{Path: "/"}
	mustLast(t, hand, len(want)-1, want)
	if e := s.Snapshot(); e != api.OK {
		t.Errorf("P18: Snapshot = %d", e)
	}
	mustLast(t, hand, len(want)-1, want)
}

// sure: a tree that a disk must have, or the one behind it.
type sure struct {
	number int
	nodes  []node
}

func treeOf(s *orchard.Server) sure {
	n, l := s.Tree()
	return sure{n, l}
}

func (a sure) is(b sure) bool { return a.number == b.number && slices.Equal(a.nodes, b.nodes) }

// behind: a tree behind one request more.
func (a sure) behind(frame string) sure {
	m := &model{number: a.number, nodes: slices.Clone(a.nodes)}
	m.connect()
	m.feed(1, counted(four(2))+frame)
	return sure{m.number, m.tree()}
}

// round lets a server work until the disk stops, and tells the tree that is sure from then on, and that with the change that could not be made safe.
func round(t *testing.T, d drawer, s *orchard.Server) (done, more sure) {
	t.Helper()
	n := connect(t, s).n
	e := s.Feed(n, []byte(counted(four(2))))
	for e == api.OK {
		done = treeOf(s)
		more = done
		if d.Intn(12) == 0 {
			e = s.Snapshot()
		} else {
			frame := d.request(2)
			more = done.behind(frame)
			e = s.Feed(n, []byte(frame))
		}
	}
	if e != api.ErrDown || !treeOf(s).is(done) {
		t.Fatalf("P15: a server that is down has another tree: %d, %+v, %+v", e, treeOf(s), done)
	}
	return done, more
}

func TestCrashesAtAnyStep(t *testing.T) {
	most, kept := 0, 0
	for seed := range 200 {
		d := drawer{rand.New(rand.NewSource(int64(seed)))}
		disk, hand := api.NewDisk()
		s := serverOn(t, disk)
		for range 12 {
			hand.Stop(d.Intn(30))
			done, more := round(t, d, s)
			most = max(most, done.number)
			for { // New's own steps may be cut off as often as you like
				disk, hand = hand.Crash(d.Intn(2) * d.Intn(120))
				if d.Intn(2) == 0 {
					hand.Stop(d.Intn(8))
				}
				var e api.Errno
				if s, e = orchard.New(disk); e == api.OK {
					break
				}
				if e != api.ErrDown || s != nil {
					t.Fatalf("P17: New = %v, %d", s, e)
				}
			}
			got := treeOf(s)
			if !got.is(done) && !got.is(more) {
				t.Fatalf("P17: behind a crash the tree is %+v, and was %+v", got, done)
			}
			if !got.is(done) {
				kept++
			}
			hand.Stop(-1)
		}
	}
	if most < 30 || kept < 50 {
		t.Errorf("the greatest number was %d; %d changes were kept that were not made safe", most, kept)
	}
}
