package orchard_test

import (
	"slices"
	"testing"

	"orchard/api"
	"orchard/orchard"
)

// Tests of P2, of the calls of files: what is handed in, and what comes out.

// nodesWithRoom: a list of these nodes, with one node more in its spare room.
func nodesWithRoom(l []node) []node {
	room := append(slices.Clone(l), node{Path: "spare", Made: 77})
	return room[:len(l)]
}

// nodesStay: such a list, and its spare room, are as they were.
func nodesStay(l, want []node) bool {
	spare := l[:len(l)+1][len(l)]
	return slices.Equal(l, want) && spare == node{Path: "spare", Made: 77}
}

// fillNodes writes over a list of nodes and its spare room.
func fillNodes(l []node) {
	l = l[:cap(l)]
	for i := range l {
		l[i] = node{Path: "over", Data: "over", Note: "over", Made: 13, Changed: 13, Version: 13}
	}
}

func TestNodesHandedInStayAsTheyAre(t *testing.T) {
	swapped := changed(grove(), func(l []node) { l[1], l[2] = l[2], l[1] })
	for _, want := range [][]node{nil, root(), grove(), noted(), swapped, wide(api.MaxNodes), wide(api.MaxNodes + 1)} {
		for _, version := range []int{0, 1, 2, 3} {
			for _, number := range []int{-1, 0, 9} {
				l := nodesWithRoom(want)
				_, e := orchard.Save(version, number, l)
				if !nodesStay(l, want) {
					t.Errorf("P2: Save(%d, %d, ..), which is %d, has written into the nodes: %+v", version, number, e, l[:len(l)+1])
				}
			}
		}
	}
}

func TestFilesHandedInStayAsTheyAre(t *testing.T) {
	good := fileOf(1, 9, grove())
	for _, s := range []string{"", "ORCH", good, fileOf(2, 9, noted()), good[:len(good)-1] + "\xff", good + "x", good[:40], fileOf(2, 8, noted())} {
		b, room := roomy(s)
		orchard.Sum(b)
		unchanged(t, "Sum", room, s)
		orchard.Load(b)
		unchanged(t, "Load", room, s)
		orchard.Upgrade(b)
		unchanged(t, "Upgrade", room, s)
	}
}

func TestWhatSaveAnswersIsNew(t *testing.T) {
	for version := 1; version <= api.Newest; version++ {
		l, want := nodesWithRoom(grove()), fileOf(version, 9, grove())
		a, _ := orchard.Save(version, 9, l)
		b, _ := orchard.Save(version, 9, l)
		fill(a)
		if c, _ := orchard.Save(version, 9, l); string(b) != want || string(c) != want {
			t.Errorf("P2: two answers of Save share memory: %x, %x", b, c)
		}
		fillNodes(l)
		if string(b) != want {
			t.Errorf("P2: what Save has answered is %x behind the call", b)
		}
		rightFile(t, version, 9, grove())
	}
}

func TestWhatLoadAnswersIsNew(t *testing.T) {
	for version, want := range map[int][]node{1: grove(), 2: noted()} {
		b, _ := roomy(fileOf(version, 9, want))
		x, y := loaded(t, b), loaded(t, b)
		fill(b)
		fillNodes(x[len(x):])
		if !slices.Equal(x, want) || !slices.Equal(y, want) {
			t.Errorf("P2: what Load has answered is %+v and %+v behind the call, want %+v", x, y, want)
		}
		fillNodes(x)
		if !slices.Equal(y, want) {
			t.Errorf("P2: two answers of Load share memory: %+v", y)
		}
		rightFile(t, version, 9, want)
	}
}

func loaded(t *testing.T, b []byte) []node {
	t.Helper()
	_, _, l, e := orchard.Load(b)
	if e != api.OK {
		t.Fatalf("P9: Load(%x) = %d", b, e)
	}
	return l
}

func TestWhatUpgradeAnswersIsNew(t *testing.T) {
	for version := 1; version <= api.Newest; version++ {
		s, want := fileOf(version, 9, grove()), fileOf(2, 9, grove())
		b, room := roomy(s)
		x, _ := orchard.Upgrade(b)
		y, _ := orchard.Upgrade(b)
		fill(x)
		unchanged(t, "who writes into Upgrade's answer", room, s)
		fill(b)
		if string(y) != want {
			t.Errorf("P2: what Upgrade has answered is %x behind the call, want %x", y, want)
		}
		rightFile(t, version, 9, grove())
	}
}
