package orchard_test

import (
	"math/rand"
	"slices"
	"testing"

	"orchard/api"
	"orchard/orchard"
)

// Tests of P17: a disk that crashes, again and again, at any step.

// sure: a tree that a disk must have, or the one behind it.
type sure struct {
	number int
	nodes  []node
}

func treeOf(s *orchard.Server) sure {
	n, l := s.Tree()
	return sure{n, l}
}

func (a sure) is(b sure) bool { return a.number == b.number && slices.Equal(a.nodes, b.nodes) }

// behind: a tree behind one request more.
func (a sure) behind(frame string) sure {
	m := &model{number: a.number, nodes: slices.Clone(a.nodes)}
	m.connect()
	m.feed(1, counted(four(2))+frame)
	return sure{m.number, m.tree()}
}

// round lets a server work until the disk stops, and tells the tree that is sure from then on, and that with the change that could not be made safe.
func round(t *testing.T, d drawer, s *orchard.Server) (done, more sure) {
	t.Helper()
	n := connect(t, s).n
	e := s.Feed(n, []byte(counted(four(2))))
	for e == api.OK {
		done = treeOf(s)
		more = done
		if d.Intn(12) == 0 {
			e = s.Snapshot()
		} else {
			frame := d.request(2)
			more = done.behind(frame)
			e = s.Feed(n, []byte(frame))
		}
	}
	if e != api.ErrDown || !treeOf(s).is(done) {
		t.Fatalf("P15: a server that is down has another tree: %d, %+v, %+v", e, treeOf(s), done)
	}
	return done, more
}

func TestCrashesAtAnyStep(t *testing.T) {
	most, kept := 0, 0
	for seed := range 200 {
		d := drawer{rand.New(rand.NewSource(int64(seed)))}
		disk, hand := api.NewDisk()
		s := serverOn(t, disk)
		for range 12 {
			hand.Stop(d.Intn(30))
			done, more := round(t, d, s)
			most = max(most, done.number)
			for { // New's own steps may be cut off as often as you like
				disk, hand = hand.Crash(d.Intn(2) * d.Intn(120))
				if d.Intn(2) == 0 {
					hand.Stop(d.Intn(8))
				}
				var e api.Errno
				if s, e = orchard.New(disk); e == api.OK {
					break
				}
				if e != api.ErrDown || s != nil {
					t.Fatalf("P17: New = %v, %d", s, e)
				}
			}
			got := treeOf(s)
			if !got.is(done) && !got.is(more) {
				t.Fatalf("P17: behind a crash the tree is %+v, and was %+v", got, done)
			}
			if !got.is(done) {
				kept++
			}
			hand.Stop(-1)
		}
	}
	if most < 30 || kept < 50 {
		t.Errorf("the greatest number was %d; %d changes were kept that were not made safe", most, kept)
	}
}
