package tree

import (
	"math"
	"strings"
	"testing"

	"orchard/api"
)

// nearRoot: the root alone, but for what is changed in it.
func nearRoot(change func(n *api.Node)) []api.Node {
	l := []api.Node{{Path: Root, Changed: 9}}
	change(&l[0])
	return l
}

func TestBoundsOfANode(t *testing.T) {
	for _, c := range []struct {
		what string
		want bool
		l    []api.Node
	}{
		{"Version 2^31 - 1", true, nearRoot(func(n *api.Node) { n.Version = math.MaxInt32 })},
		{"Version 2^31", false, nearRoot(func(n *api.Node) { n.Version = math.MaxInt32 + 1 })},
		{"Version 2^32", false, nearRoot(func(n *api.Node) { n.Version = 1 << 32 })},
		{"Version -1", false, nearRoot(func(n *api.Node) { n.Version = -1 })},
		{"Made is Changed", true, nearRoot(func(n *api.Node) { n.Made = 9 })},
		{"Made above Changed", false, nearRoot(func(n *api.Node) { n.Made = 10 })},
		{"Made -1", false, nearRoot(func(n *api.Node) { n.Made = -1 })},
		{"Changed above the number", false, nearRoot(func(n *api.Node) { n.Changed = 10 })},
		{"the longest data", true, nearRoot(func(n *api.Node) { n.Data = strings.Repeat("\xff", api.MaxData) })},
		{"longer data", false, nearRoot(func(n *api.Node) { n.Data = strings.Repeat("\xff", api.MaxData+1) })},
		{"the longest note", true, nearRoot(func(n *api.Node) { n.Note = strings.Repeat("n", api.MaxNote) })},
		{"a longer note", false, nearRoot(func(n *api.Node) { n.Note = strings.Repeat("n", api.MaxNote+1) })},
		{"a note that is no UTF-8", false, nearRoot(func(n *api.Node) { n.Note = "\xff" })},
	} {
		if IsTree(9, c.l) != c.want {
			t.Errorf("%s: want %t", c.what, c.want)
		}
	}
}
