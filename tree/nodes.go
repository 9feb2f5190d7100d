package tree

import (
	"slices"
	"strings"

	"orchard/api"
)

// Tree is a tree with the number of its last change; its nodes are found by their paths.
type Tree struct {
	number int
	nodes  map[string]api.Node
}

// New makes a tree of a list of nodes that is one with this number.
func New(number int, nodes []api.Node) *Tree {
	t := &Tree{number: number, nodes: map[string]api.Node{}}
	for _, n := range nodes {
		t.nodes[n.Path] = n
	}
	return t
}

// First is the tree ahead of all changes.
func First() *Tree { return New(0, []api.Node{{Path: Root}}) }

// Number is that of the last change.
func (t *Tree) Number() int { return t.number }

// Nodes lists all nodes; their paths rise.
func (t *Tree) Nodes() []api.Node {
	out := make([]api.Node, 0, len(t.nodes))
	for _, n := range t.nodes {
		out = append(out, n)
	}
	slices.SortFunc(out, func(a, b api.Node) int { return strings.Compare(a.Path, b.Path) })
	return out
}

// Find tells the node of a path: ErrPath, if it is none; ErrNone, if there is no such node.
func (t *Tree) Find(path string) (api.Node, api.Errno) {
	if !IsPath(path) {
		return api.Node{}, api.ErrPath
	}
	n, ok := t.nodes[path]
	if !ok {
		return api.Node{}, api.ErrNone
	}
	return n, api.OK
}

// Children are the last names of all nodes whose parent has this path; they rise.
func (t *Tree) Children(path string) []string {
	var names []string
	for p := range t.nodes {
		if p != Root && Parent(p) == path {
			names = append(names, lastName(p))
		}
	}
	slices.Sort(names)
	return names
}
