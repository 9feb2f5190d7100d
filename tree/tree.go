package tree

import (
	"math"
	"unicode/utf8"

	"orchard/api"
)

// IsTree tells whether the nodes are a tree with this number.
func IsTree(number int, nodes []api.Node) bool {
	if len(nodes) == 0 || len(nodes) > api.MaxNodes || nodes[0].Path != Root {
		return false
	}
	for _, n := range nodes {
		if !isNode(n) || n.Changed > number {
			return false
		}
	}
	return rises(nodes) && haveParents(nodes)
}

// isNode tells whether a node may stand in a tree, for itself.
func isNode(n api.Node) bool {
	return IsPath(n.Path) && len(n.Data) <= api.MaxData && isNote(n.Note) &&
		0 <= n.Made && n.Made <= n.Changed && 0 <= n.Version && n.Version <= math.MaxInt32
}

func isNote(s string) bool { return len(s) <= api.MaxNote && utf8.ValidString(s) }

// rises tells whether each path is above the one ahead of it.
func rises(nodes []api.Node) bool {
	for i := 1; i < len(nodes); i++ {
		if nodes[i-1].Path >= nodes[i].Path {
			return false
		}
	}
	return true
}

// haveParents tells whether the parent of each node but the first is there.
func haveParents(nodes []api.Node) bool {
	places := map[string]int{}
	for i, n := range nodes {
		places[n.Path] = i
	}
	for _, n := range nodes[1:] {
		if _, ok := places[Parent(n.Path)]; !ok {
			return false
		}
	}
	return true
}
