package journal

import (
	"fmt"
	"math"
	"slices"
	"testing"

	"orchard/api"
	"orchard/tree"
)

func mustOpen(t *testing.T, d *api.Disk) (Journal, *tree.Tree) {
	t.Helper()
	j, x, ok := Open(d)
	if !ok {
		t.Fatal("Open tells that the disk is stopped")
	}
	return j, x
}

// grow makes so many nodes, each of which is recorded ahead.
func grow(t *testing.T, j Journal, x *tree.Tree, n int) {
	t.Helper()
	for range n {
		c := tree.Change{Kind: api.Create, Path: fmt.Sprintf("/n%d", x.Number()+1), Data: "\xff", Note: "é"}
		if !j.Record(x.Number()+1, c) {
			t.Fatal("Record tells that the disk is stopped")
		}
		x.Do(c)
	}
}

func same(a, b *tree.Tree) bool {
	return a.Number() == b.Number() && slices.Equal(a.Nodes(), b.Nodes())
}

// copyOf: a disk with these files alone.
func copyOf(from *api.Disk, names ...string) *api.Disk {
	d, _ := api.NewDisk()
	for _, name := range names {
		d.Append(name, from.Read(name))
		d.Sync(name)
	}
	return d
}

// Of a log that ends in the midst of a record, the whole ones are done; what is recorded from then on is not lost behind the piece.
func TestAPieceAtTheEndOfTheLog(t *testing.T) {
	from, _ := api.NewDisk()
	j, x := mustOpen(t, from)
	var ends []int
	for range 3 {
		grow(t, j, x, 1)
		ends = append(ends, len(from.Read(logName)))
	}
	log := from.Read(logName)
	for n := range len(log) + 1 {
		d, _ := api.NewDisk()
		d.Append(logName, log[:n])
		want := 0
		for _, end := range ends {
			if end <= n {
				want++
			}
		}
		j, x := mustOpen(t, d)
		if x.Number() != want || len(x.Nodes()) != want+1 {
			t.Fatalf("of %d bytes of the log Open has done %d changes, want %d", n, x.Number(), want)
		}
		grow(t, j, x, 2)
		if _, y := mustOpen(t, d); !same(x, y) || y.Number() != want+2 {
			t.Fatalf("behind %d bytes of the log, and two changes: %d, %+v", n, y.Number(), y.Nodes())
		}
	}
}

// A crash between a snapshot and the end of its log leaves both.
func TestALogThatIsInTheSnapshotAlready(t *testing.T) {
	d, _ := api.NewDisk()
	j, x := mustOpen(t, d)
	grow(t, j, x, 4)
	log := d.Read(logName)
	if !j.Snapshot(x) || d.Has(logName) || d.Has(freshName) {
		t.Fatal("behind a snapshot there is more than it")
	}
	both := copyOf(d, snapshotName)
	both.Append(logName, log)
	k, y := mustOpen(t, both)
	if !same(x, y) {
		t.Fatalf("a snapshot and its log: %d, %+v", y.Number(), y.Nodes())
	}
	grow(t, k, y, 2)
	if _, z := mustOpen(t, both); !same(y, z) || z.Number() != 6 {
		t.Errorf("a snapshot, its log, and two changes: %d, %+v", z.Number(), z.Nodes())
	}
}

// Sets and Deletes are done again as they were, whichever version they asked for.
func TestAllKindsAreRecorded(t *testing.T) {
	d, _ := api.NewDisk()
	j, x := mustOpen(t, d)
	grow(t, j, x, 3)
	for _, c := range []tree.Change{
		{Kind: api.Set, Path: "/n1", Data: "y", Version: 0}, {Kind: api.Set, Path: "/n1", Data: "z", Version: 1}, {Kind: api.Delete, Path: "/n2", Version: 0}, {Kind: api.Delete, Path: "/n1", Version: 2},
		{Kind: api.Create, Path: "/n1", Note: "again"}, {Kind: api.Set, Path: "/", Data: "top", Version: api.AnyState},
	} {
		if x.Check(c) != api.OK || !j.Record(x.Number()+1, c) {
			t.Fatalf("%+v can't be done", c)
		}
		x.Do(c)
		if _, y := mustOpen(t, copyOf(d, snapshotName, logName)); !same(x, y) {
			t.Fatalf("behind %+v: %d, %+v, want %d, %+v", c, y.Number(), y.Nodes(), x.Number(), x.Nodes())
		}
	}
}

// A piece of a snapshot that never got its name is nothing, and in nobody's way.
func TestAPieceOfASnapshot(t *testing.T) {
	d, _ := api.NewDisk()
	j, x := mustOpen(t, d)
	grow(t, j, x, 2)
	for range 2 {
		d.Append(freshName, "a piece")
		if _, y := mustOpen(t, d); !same(x, y) {
			t.Errorf("beside a piece: %d, %+v", y.Number(), y.Nodes())
		}
		if !j.Snapshot(x) {
			t.Errorf("Snapshot tells that the disk is stopped")
		}
		if _, y := mustOpen(t, d); !same(x, y) {
			t.Errorf("behind a snapshot: %d, %+v", y.Number(), y.Nodes())
		}
	}
}

// On a disk on which nothing is to be put right, Open does no step.
func TestOpenLeavesADiskAsItIs(t *testing.T) {
	for _, name := range []string{"", snapshotName} {
		d, h := api.NewDisk()
		j, x := mustOpen(t, d)
		if name != "" && !j.Snapshot(x) {
			t.Fatal("Snapshot tells that the disk is stopped")
		}
		h.Stop(1)
		mustOpen(t, d)
		if d.Stopped() {
			t.Errorf("Open has done a step beside %q", name)
		}
	}
}

// What others have written is no tree; nothing is promised of that, but that it ends well.
func TestFilesOfOthers(t *testing.T) {
	for _, s := range []string{"x", "\x00\x00\x00\x00", "\xff\xff\xff\xff", "\x00\x00\x00\x01x\x00\x00\x00\x01y", "ORCH"} {
		for _, name := range []string{snapshotName, logName, freshName} {
			d, _ := api.NewDisk()
			d.Append(name, s)
			j, x := mustOpen(t, d)
			if !same(x, tree.First()) {
				t.Errorf("beside %q in %s: %d, %+v", s, name, x.Number(), x.Nodes())
			}
			grow(t, j, x, 1)
			if _, y := mustOpen(t, d); !same(x, y) {
				t.Errorf("beside %q in %s, and a change: %d, %+v", s, name, y.Number(), y.Nodes())
			}
		}
	}
}

// Records that are none, or can't be done, are left out.
func TestRecordsThatAreNone(t *testing.T) {
	for _, c := range []tree.Change{{Kind: 0, Path: "/a"}, {Kind: api.Get, Path: "/"}, {Kind: -1, Path: "/"}, {Kind: api.Set, Path: "/a"}, {Kind: api.Delete, Path: "/"}, {Kind: api.Create, Path: "a"}} {
		d, _ := api.NewDisk()
		j, _ := mustOpen(t, d)
		j.Record(1, c)
		if _, x := mustOpen(t, d); !same(x, tree.First()) {
			t.Errorf("%+v was done: %+v", c, x.Nodes())
		}
	}
	for _, last := range []int{0, -1, 2, math.MaxInt64, math.MinInt64} {
		d, _ := api.NewDisk()
		j, _ := mustOpen(t, d)
		j.Record(last, tree.Change{Kind: api.Create, Path: "/a"})
		if _, x := mustOpen(t, d); !same(x, tree.First()) {
			t.Errorf("a change with the number %d was done first", last)
		}
	}
}

// A change is safe with its last step, also where the disk does no other behind that.
func TestTheLastStepsOfADisk(t *testing.T) {
	d, h := api.NewDisk()
	j, x := mustOpen(t, d)
	h.Stop(2)
	c := tree.Change{Kind: api.Create, Path: "/a"}
	if !j.Record(1, c) || !d.Stopped() {
		t.Fatal("Record is not done with two steps, or needs fewer")
	}
	x.Do(c)
	left, _ := h.Crash(0)
	if _, y := mustOpen(t, left); !same(x, y) {
		t.Errorf("behind a crash: %d, %+v", y.Number(), y.Nodes())
	}
}

func TestADiskThatIsStopped(t *testing.T) {
	d, h := api.NewDisk()
	j, x := mustOpen(t, d)
	h.Stop(1)
	if j.Record(1, tree.Change{Kind: api.Create, Path: "/a"}) {
		t.Error("Record is done without Sync")
	}
	if j.Snapshot(x) {
		t.Error("Snapshot is done on a disk that is stopped")
	}
	if j, x, ok := Open(d); ok || x != nil || j != (Journal{}) {
		t.Error("Open is done on a disk that is stopped")
	}
}
