package orchard_test

import (
	"hash/adler32"
	"slices"
	"strings"
	"testing"

	"orchard/api"
	"orchard/orchard"
)

type node = api.Node

func eight(n int) string { return four(n>>32) + four(n) }

// laid: the bytes of a node in a file.
func laid(version int, n node) string {
	note := ""
	if version == 2 {
		note = counted(n.Note)
	}
	return counted(n.Path) + counted(n.Data) + note + eight(n.Made) + eight(n.Changed) + four(n.Version)
}

// unsummed: what a file of these must be, but for its sum, whether they are a tree or not.
func unsummed(version, number int, nodes []node) string {
	b := "ORCH" + string([]byte{byte(version)}) + eight(number) + four(len(nodes))
	for _, n := range nodes {
		b += laid(version, n)
	}
	return b
}

// summed: bytes with their sum behind, which another than the program has told.
func summed(b string) string { return b + four(int(adler32.Checksum([]byte(b)))) }

func fileOf(version, number int, nodes []node) string {
	return summed(unsummed(version, number, nodes))
}

func root() []node { return []node{{Path: "/"}} }

// grove: a tree with the number 9, each node of which is at some edge; without notes.
func grove() []node {
	return []node{
		{Path: "/", Data: "x", Changed: 7, Version: 1<<31 - 1},
		{Path: "/-", Data: "\x00", Made: 1, Changed: 9},
		{Path: "/...", Made: 9, Changed: 9, Version: 1},
		{Path: "/a", Made: 1, Changed: 2, Version: 256},
		{Path: "/a-b", Data: strings.Repeat("\xff", api.MaxData)},
		{Path: "/a/b", Made: 3, Changed: 3},
		{Path: "/a/b/c.", Made: 4, Changed: 5, Version: 1},
	}
}

// noted: the same, with notes.
func noted() []node {
	l := grove()
	l[0].Note, l[1].Note, l[3].Note, l[6].Note = "ten bytes.", "ééééé", "\x00", "\U0010ffff"
	return l
}

// below: the root, all nodes above a path, and it.
func below(path string) []node {
	l := root()
	for i := 1; i < len(path); i++ {
		if path[i] == '/' {
			l = append(l, node{Path: path[:i]})
		}
	}
	return append(l, node{Path: path})
}

// changed: a copy of a list, in which this was done.
func changed(l []node, do func(l []node)) []node {
	l = slices.Clone(l)
	do(l)
	return l
}

// rightFile holds a tree and its file against each other, through all calls.
func rightFile(t *testing.T, version, number int, nodes []node) {
	t.Helper()
	want := fileOf(version, number, nodes)
	if b, e := orchard.Save(version, number, nodes); string(b) != want || e != api.OK {
		t.Errorf("P8: Save(%d, %d, %.200v) = %.200x, %d, want %.200x", version, number, nodes, b, e, want)
	}
	v, n, l, e := orchard.Load([]byte(want))
	if v != version || n != number || !slices.Equal(l, nodes) || e != api.OK {
		t.Errorf("P9: Load(%.99x) = %d, %d, %.200v, %d, want %d, %d, %.200v", want, v, n, l, e, version, number, nodes)
	}
	if b, e := orchard.Upgrade([]byte(want)); string(b) != fileOf(2, number, nodes) || e != api.OK {
		t.Errorf("P10: Upgrade(%.99x) = %.200x, %d, want %.200x", want, b, e, fileOf(2, number, nodes))
	}
}

// noSave: Save answers an error.
func noSave(t *testing.T, version, number int, nodes []node, want api.Errno) {
	t.Helper()
	if b, e := orchard.Save(version, number, nodes); b != nil || e != want {
		t.Errorf("P8: Save(%d, %d, %.200v) = %.200x, %d, want %d", version, number, nodes, b, e, want)
	}
}

// noFile: Load and Upgrade answer an error.
func noFile(t *testing.T, b string) {
	t.Helper()
	if v, n, l, e := orchard.Load([]byte(b)); v != 0 || n != 0 || l != nil || e != api.ErrFile {
		t.Errorf("P9: Load(%.99x) = %d, %d, %.200v, %d, want ErrFile", b, v, n, l, e)
	}
	if u, e := orchard.Upgrade([]byte(b)); u != nil || e != api.ErrFile {
		t.Errorf("P10: Upgrade(%.99x) = %.200x, %d, want ErrFile", b, u, e)
	}
}

// noTree: these nodes are no tree with this number, neither in a list nor in a file whose sum is right.
func noTree(t *testing.T, number int, nodes []node) {
	t.Helper()
	for version := 1; version <= api.Newest; version++ {
		noSave(t, version, number, nodes, api.ErrTree)
	}
	noFile(t, fileOf(2, number, nodes))
	if !slices.ContainsFunc(nodes, func(n node) bool { return n.Note != "" }) {
		noFile(t, fileOf(1, number, nodes))
	}
}

// rightTree: these nodes are a tree with this number.
func rightTree(t *testing.T, number int, nodes []node) {
	t.Helper()
	rightFile(t, 2, number, nodes)
	if !slices.ContainsFunc(nodes, func(n node) bool { return n.Note != "" }) {
		rightFile(t, 1, number, nodes)
	}
}
