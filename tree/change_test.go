package tree

import (
	"math"
	"slices"
	"testing"

	"orchard/api"
)

func TestVersionBehind(t *testing.T) {
	for version, want := range map[int]int{0: 1, 1: 2, math.MaxInt32 - 1: math.MaxInt32, math.MaxInt32: 0} {
		x := New(5, []api.Node{{Path: Root, Version: version}})
		x.Do(Change{Kind: api.Set, Path: Root, Data: "x", Version: api.AnyState})
		if n, _ := x.Find(Root); n.Version != want || n.Changed != 6 || n.Made != 0 || n.Data != "x" {
			t.Errorf("behind version %d: %+v", version, n)
		}
	}
}

func TestFirst(t *testing.T) {
	x := First()
	if x.Number() != 0 || !slices.Equal(x.Nodes(), []api.Node{{Path: "/"}}) || !IsTree(0, x.Nodes()) {
		t.Errorf("the first tree: %d, %+v", x.Number(), x.Nodes())
	}
}

func TestChildren(t *testing.T) {
	x := New(0, []api.Node{{Path: "/"}, {Path: "/b"}, {Path: "/a"}, {Path: "/a/c"}, {Path: "/ab"}, {Path: "/a/c/d"}})
	for path, want := range map[string][]string{"/": {"a", "ab", "b"}, "/a": {"c"}, "/a/c": {"d"}, "/b": nil, "/a/c/d": nil, "/z": nil} {
		if l := x.Children(path); !slices.Equal(l, want) {
			t.Errorf("the children of %s are %q, want %q", path, l, want)
		}
	}
}
