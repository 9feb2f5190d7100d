package tree

import (
	"math"

	"orchard/api"
)

// Change is a Create, a Delete or a Set. What its kind does not need is empty or 0.
type Change struct {
	Kind             int
	Path, Data, Note string
	Version          int // which the node must have; AnyState: any
}

// Check tells why a change can't be done, or OK.
func (t *Tree) Check(c Change) api.Errno {
	switch c.Kind {
	case api.Create:
		return t.checkCreate(c)
	case api.Delete:
		return t.checkDelete(c)
	default:
		return t.checkSet(c)
	}
}

func (t *Tree) checkCreate(c Change) api.Errno {
	_, errno := t.Find(c.Path)
	if errno == api.ErrPath {
		return api.ErrPath
	}
	if len(c.Data) > api.MaxData || len(c.Note) > api.MaxNote {
		return api.ErrData
	}
	if errno == api.OK {
		return api.ErrExists
	}
	if _, ok := t.nodes[Parent(c.Path)]; !ok {
		return api.ErrNone
	}
	if len(t.nodes) >= api.MaxNodes {
		return api.ErrFull
	}
	return api.OK
}

func (t *Tree) checkDelete(c Change) api.Errno {
	if c.Path == Root {
		return api.ErrRoot
	}
	n, errno := t.Find(c.Path)
	if errno != api.OK {
		return errno
	}
	if !isVersionOf(n, c.Version) {
		return api.ErrVersion
	}
	if len(t.Children(c.Path)) > 0 {
		return api.ErrChildren
	}
	return api.OK
}

func (t *Tree) checkSet(c Change) api.Errno {
	n, errno := t.Find(c.Path)
	if errno == api.ErrPath {
		return api.ErrPath
	}
	if len(c.Data) > api.MaxData {
		return api.ErrData
	}
	if errno != api.OK {
		return errno
	}
	if !isVersionOf(n, c.Version) {
		return api.ErrVersion
	}
	return api.OK
}

func isVersionOf(n api.Node, version int) bool {
	return version == api.AnyState || version == n.Version
}

// Do does a change which Check has allowed.
func (t *Tree) Do(c Change) {
	t.number++
	switch c.Kind {
	case api.Create:
		t.nodes[c.Path] = api.Node{Path: c.Path, Data: c.Data, Note: c.Note, Made: t.number, Changed: t.number}
	case api.Delete:
		delete(t.nodes, c.Path)
	default:
		n := t.nodes[c.Path]
		n.Data, n.Changed, n.Version = c.Data, t.number, versionBehind(n.Version)
		t.nodes[c.Path] = n
	}
}

// versionBehind goes round, since a version has room in four bytes only.
func versionBehind(version int) int {
	if version == math.MaxInt32 {
		return 0
	}
	return version + 1
}
