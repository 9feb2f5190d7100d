// Package journal: a tree on a disk: a snapshot, and a log of the changes behind it.
package journal

import (
	"orchard/api"
	"orchard/file"
	"orchard/frame"
	"orchard/tree"
	"orchard/value"
)

// The names of files. A snapshot gets its name only when it is whole and safe.
const (
	snapshotName = "snapshot"
	freshName    = "snapshot.new"
	logName      = "log"
)

// recordSchema is that of a change in the log: kind, number, path, data, note.
const recordSchema = "(48tbt)"

// Journal keeps a tree on a disk.
type Journal struct{ disk *api.Disk }

// Open reads the tree that is on a disk; false, if the disk is stopped, or stops meanwhile.
func Open(d *api.Disk) (Journal, *tree.Tree, bool) {
	j := Journal{disk: d}
	t := j.readSnapshot()
	j.readLog(t)
	// A crash may have left a piece of a record at the log's end, behind which nothing may be laid.
	if d.Has(logName) && !j.Snapshot(t) || d.Stopped() {
		return Journal{}, nil, false
	}
	return j, t, true
}

// readSnapshot reads the tree of the snapshot; where there is none, it is the first one.
func (j Journal) readSnapshot() *tree.Tree {
	_, last, nodes, errno := file.Load([]byte(j.disk.Read(snapshotName)))
	if errno != api.OK {
		return tree.First()
	}
	return tree.New(last, nodes)
}

// readLog does the changes of the log that are not in the tree yet.
func (j Journal) readLog(t *tree.Tree) {
	var cutter frame.Cutter
	cutter.Each([]byte(j.disk.Read(logName)), func(body []byte) {
		// Where a crash came between a snapshot and the end of its log, the log tells changes again.
		last, c, ok := readRecord(body)
		if ok && last == t.Number()+1 && t.Check(c) == api.OK {
			t.Do(c)
		}
	})
}

// Record makes the change with this number safe; false, if the disk stops.
func (j Journal) Record(last int, c tree.Change) bool {
	r, ok := makeRecord(last, c)
	return ok && j.disk.Append(logName, string(r)) && j.disk.Sync(logName)
}

// Snapshot lays the tree down whole, so that no log is needed; false, if the disk stops.
func (j Journal) Snapshot(t *tree.Tree) bool {
	b, errno := file.Save(api.Newest, t.Number(), t.Nodes())
	if errno != api.OK {
		return false
	}
	d := j.disk
	// What has the fresh one's name may be a piece that a crash has left.
	whole := d.Remove(freshName) && d.Append(freshName, string(b)) && d.Sync(freshName)
	return whole && d.Rename(freshName, snapshotName) && d.Remove(logName) && !d.Stopped()
}

// makeRecord makes the frame of a change: of a piece of it the length tells that it is none.
func makeRecord(last int, c tree.Change) ([]byte, bool) {
	t, ok := value.Parse(recordSchema)
	if !ok {
		return nil, false
	}
	body, ok := value.Encode(t, api.Value{L: []api.Value{{N: c.Kind}, {N: last}, {S: c.Path}, {S: c.Data}, {S: c.Note}}})
	if !ok {
		return nil, false
	}
	return frame.Make(body)
}

// readRecord reads a change and its number; false, if the body is none. The version was held against the node's when the change was done: now any will do.
func readRecord(body []byte) (int, tree.Change, bool) {
	t, ok := value.Parse(recordSchema)
	if !ok {
		return 0, tree.Change{}, false
	}
	v, ok := value.Decode(t, body)
	if !ok || v.L[0].N < api.Create || v.L[0].N > api.Set {
		return 0, tree.Change{}, false
	}
	l := v.L
	return l[1].N, tree.Change{Kind: l[0].N, Path: l[2].S, Data: l[3].S, Note: l[4].S, Version: api.AnyState}, true
}
