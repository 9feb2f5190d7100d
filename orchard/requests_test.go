package orchard_test

import (
	"fmt"
	"math"
	"slices"
	"strings"
	"testing"

	"orchard/api"
	"orchard/orchard"
)

// Tests of P13: what each request does, and which error it is answered with.

var (
	fullData = strings.Repeat("\xff", api.MaxData)
	overData = fullData + "\xff"
	fullNote = strings.Repeat("é", api.MaxNote/2)
	overNote = fullNote + "n"
	fullPath = "/" + strings.Repeat("p", api.MaxPath-1)
	overPath = fullPath + "p"
)

// wrongPaths are texts of a request, but no paths.
var wrongPaths = []string{"", "a", "//", "/a/", "/a//b", "/.", "/..", "/a/..", "/A", "/é", "/a b", "/\x00", overPath, strings.Repeat("x", api.MaxBytes)}

// forest: a tree with the number 9, for requests that do not go well.
func forest() []node {
	return []node{
		{Path: "/", Changed: 9, Version: 3},
		{Path: "/a", Data: "x", Note: "n", Made: 1, Changed: 5, Version: 2},
		{Path: "/a/b", Made: 2, Changed: 2},
		{Path: "/c", Data: fullData, Note: fullNote, Made: 4, Changed: 8, Version: math.MaxInt32},
	}
}

// full: a tree of MaxNodes nodes with the number 9.
func full() []node {
	l := forest()
	for i := len(l); i < api.MaxNodes; i++ {
		l = append(l, node{Path: fmt.Sprintf("/d%02d", i), Made: 3, Changed: 3})
	}
	return l
}

func TestCreate(t *testing.T) {
	s := newServer(t)
	one, two := greeted(t, s, 1), greeted(t, s, 2)
	two.ask(api.Create, making("/a", fullData, fullNote), 1, counted("/a"))
	one.ask(api.Create, making1("/a/b", fullData), 2, counted("/a/b"))
	one.ask(api.Create, making1(fullPath, ""), 3, counted(fullPath))
	two.ask(api.Create, making("/a/b/c-.0", "", ""), 4, counted("/a/b/c-.0"))
	two.ask(api.Create, making("/a.", "", ""), 5, counted("/a."))
	mustTree(t, s, 5, []node{
		{Path: "/"},
		{Path: "/a", Data: fullData, Note: fullNote, Made: 1, Changed: 1},
		{Path: "/a.", Made: 5, Changed: 5},
		{Path: "/a/b", Data: fullData, Made: 2, Changed: 2},
		{Path: "/a/b/c-.0", Made: 4, Changed: 4},
		{Path: fullPath, Made: 3, Changed: 3},
	})
}

func TestDelete(t *testing.T) {
	s := serverOf(t, 9, forest())
	c := greeted(t, s, 1)
	c.ask(api.Delete, deleting("/a/b", 0), 10, "")
	c.ask(api.Delete, deleting("/a", 2), 11, "")
	c.fail(api.Delete, deleting("/a", 2), 11, api.ErrNone)
	c.ask(api.Delete, deleting("/c", -1), 12, "")
	mustTree(t, s, 12, forest()[:1])
	c.ask(api.Create, making1("/a", ""), 13, counted("/a")) // another node, as new
	c.ask(api.Get, looking("/a", noWatch), 13, counted("")+state(13, 13, 0, 0))
}

func TestSet(t *testing.T) {
	s := serverOf(t, 9, forest())
	one, two := greeted(t, s, 1), greeted(t, s, 2)
	one.ask(api.Set, setting("/a", fullData, 2), 10, state(1, 10, 3, 1))
	two.ask(api.Set, setting("/a", "", -1), 11, state(1, 11, 4, 1))
	two.ask(api.Set, setting("/", "r", 3), 12, state(0, 12, 4, 2))
	two.ask(api.Set, setting("/a/b", "q", -1), 13, state(2, 13, 1, 0))
	mustTree(t, s, 13, changed(forest(), func(l []node) {
		l[0].Data, l[0].Changed, l[0].Version = "r", 12, 4
		l[1].Data, l[1].Changed, l[1].Version = "", 11, 4
		l[2].Data, l[2].Changed, l[2].Version = "q", 13, 1
	}))
}

func TestVersionGoesRound(t *testing.T) {
	for _, version := range []int{math.MaxInt32, -1} {
		s := serverOf(t, 9, forest())
		c := greeted(t, s, 2)
		c.ask(api.Set, setting("/c", "y", version), 10, state(4, 10, 0, 0))
		c.fail(api.Set, setting("/c", "y", math.MaxInt32), 10, api.ErrVersion)
		c.fail(api.Set, setting("/c", "y", math.MinInt32), 10, api.ErrVersion)
		c.ask(api.Set, setting("/c", "z", 0), 11, state(4, 11, 1, 0))
	}
	l := changed(forest(), func(l []node) { l[3].Version = math.MaxInt32 - 1 })
	c := greeted(t, serverOf(t, 9, l), 2)
	c.ask(api.Set, setting("/c", "y", math.MaxInt32-1), 10, state(4, 10, math.MaxInt32, 0))
	c.ask(api.Set, setting("/c", "z", math.MaxInt32), 11, state(4, 11, 0, 0))
}

func TestGetExistsList(t *testing.T) {
	s := serverOf(t, 9, forest())
	one, two := greeted(t, s, 1), greeted(t, s, 2)
	for range 2 { // to look changes nothing
		for _, w := range []string{noWatch, watch} {
			one.ask(api.Get, looking("/a", w), 9, counted("x")+state(1, 5, 2, 1))
			two.ask(api.Get, looking("/a", w), 9, counted("x")+counted("n")+state(1, 5, 2, 1))
			one.ask(api.Get, looking("/", w), 9, counted("")+state(0, 9, 3, 2))
			two.ask(api.Get, looking("/c", w), 9, counted(fullData)+counted(fullNote)+state(4, 8, math.MaxInt32, 0))
			for _, c := range []*client{one, two} {
				c.ask(api.Exists, looking("/", w), 9, state(0, 9, 3, 2))
				c.ask(api.Exists, looking("/a/b", w), 9, state(2, 2, 0, 0))
				c.ask(api.List, looking("/", w), 9, names("a", "c"))
				c.ask(api.List, looking("/a", w), 9, names("b"))
				c.ask(api.List, looking("/c", w), 9, names())
			}
		}
	}
	mustTree(t, s, 9, forest())
}

// The names rise byte by byte, however the nodes came; only the last names of a path's own children.
func TestListIsSorted(t *testing.T) {
	s := newServer(t)
	c := greeted(t, s, 1)
	for i, p := range []string{"/b", "/a", "/a.", "/a/z", "/a-", "/0", "/ab", "/b/0", "/a/z/q", "/...", "/a0", "/a/y"} {
		c.ask(api.Create, making1(p, ""), i+1, counted(p))
	}
	c.ask(api.List, looking("/", noWatch), 12, names("...", "0", "a", "a-", "a.", "a0", "ab", "b"))
	c.ask(api.List, looking("/a", noWatch), 12, names("y", "z"))
	c.ask(api.List, looking("/a/z", noWatch), 12, names("q"))
	c.ask(api.List, looking("/b", noWatch), 12, names("0"))
	c.ask(api.Exists, looking("/", noWatch), 12, state(0, 0, 0, 8))
}

// The longest answer of a List has room in a frame.
func TestTheLongestList(t *testing.T) {
	s := newServer(t)
	c := greeted(t, s, 2)
	var l []string
	for i := range api.MaxNodes - 1 {
		name := fmt.Sprintf("%s%02d", strings.Repeat("x", api.MaxPath-3), 30-i)
		l = append(l, name)
		c.ask(api.Create, making("/"+name, fullData, fullNote), i+1, counted("/"+name))
	}
	slices.Sort(l)
	c.ask(api.List, looking("/", watch), 31, names(l...))
	c.ask(api.Exists, looking("/", noWatch), 31, state(0, 0, 0, 31))
}

func TestPing(t *testing.T) {
	for version := 1; version <= api.Newest; version++ {
		c := greeted(t, serverOf(t, 9, forest()), version)
		for _, mark := range []int{0, 1, 255, 256, 1 << 16, math.MaxInt32} {
			c.send(request(api.Ping, mark, ""))
			c.get(answer(mark, 9, api.OK, ""))
		}
	}
}

// Numbers that have no room in four bytes.
func TestGreatNumbers(t *testing.T) {
	const number = 1<<40 + 1<<31
	s := serverOf(t, number, []node{{Path: "/"}, {Path: "/a", Made: 1 << 33, Changed: number}})
	a, b := greeted(t, s, 1), greeted(t, s, 2)
	b.ask(api.Exists, looking("/a", watch), number, state(1<<33, number, 0, 0))
	a.ask(api.Set, setting("/a", "x", 0), number+1, state(1<<33, number+1, 1, 0))
	b.get(event(number+1, api.Changed, "/a"))
	a.send(counted(""))
	a.get(fault(number+1, api.NoSense))
}

// fails: a request does not go well, in both versions if it is the same in both; nothing is changed.
func fails(t *testing.T, number int, nodes []node, kind int, fields string, e api.Errno) {
	t.Helper()
	s := serverOf(t, number, nodes)
	for version := 1; version <= api.Newest; version++ {
		c := greeted(t, s, version)
		f := fields
		if kind == api.Create && version == 2 {
			f += counted("")
		}
		c.fail(kind, f, number, e)
		c.ask(api.Ping, "", number, "")
	}
	mustTree(t, s, number, nodes)
}

func TestErrorsOfCreate(t *testing.T) {
	for _, p := range wrongPaths {
		fails(t, 9, forest(), api.Create, making1(p, ""), api.ErrPath)
		fails(t, 9, full(), api.Create, making1(p, overData), api.ErrPath)
	}
	for _, p := range []string{"/", "/a", "/z", "/z/z"} { // there already, new, without a parent
		fails(t, 9, forest(), api.Create, making1(p, overData), api.ErrData)
		fails(t, 9, full(), api.Create, making1(p, strings.Repeat("x", api.MaxBytes)), api.ErrData)
	}
	for _, p := range []string{"/", "/a", "/a/b"} {
		fails(t, 9, forest(), api.Create, making1(p, fullData), api.ErrExists)
		fails(t, 9, full(), api.Create, making1(p, ""), api.ErrExists)
	}
	for _, p := range []string{"/z/z", "/a/c/d", "/b/a", "/ab/c", "/c/a/b"} {
		fails(t, 9, forest(), api.Create, making1(p, fullData), api.ErrNone)
		fails(t, 9, full(), api.Create, making1(p, ""), api.ErrNone)
	}
	for _, p := range []string{"/z", "/a/z", fullPath} {
		fails(t, 9, full(), api.Create, making1(p, fullData), api.ErrFull)
	}
}

func TestNotesOfCreate(t *testing.T) {
	s := serverOf(t, 9, forest())
	c := greeted(t, s, 2)
	for _, p := range []string{"/", "/a", "/z", "/z/z"} {
		c.fail(api.Create, making(p, "", overNote), 9, api.ErrData)
		c.fail(api.Create, making(p, overData, overNote), 9, api.ErrData)
		c.fail(api.Create, making(p, overData, fullNote), 9, api.ErrData)
		c.fail(api.Create, making(p, "", strings.Repeat("n", api.MaxBytes)), 9, api.ErrData)
	}
	for _, p := range wrongPaths {
		c.fail(api.Create, making(p, "", overNote), 9, api.ErrPath)
	}
	mustTree(t, s, 9, forest())
}

func TestTheLastNodeThatHasRoom(t *testing.T) {
	s := serverOf(t, 9, full()[:api.MaxNodes-1])
	c := greeted(t, s, 1)
	c.ask(api.Create, making1("/z", ""), 10, counted("/z"))
	c.fail(api.Create, making1("/y", ""), 10, api.ErrFull)
	c.fail(api.Create, making1("/z", ""), 10, api.ErrExists)
	c.ask(api.Delete, deleting("/a/b", 0), 11, "")
	c.ask(api.Create, making1("/y", ""), 12, counted("/y"))
	c.fail(api.Create, making1("/x", ""), 12, api.ErrFull)
	if _, l := s.Tree(); len(l) != api.MaxNodes {
		t.Errorf("P16: %d nodes", len(l))
	}
}

func TestErrorsOfDelete(t *testing.T) {
	for _, p := range wrongPaths {
		fails(t, 9, forest(), api.Delete, deleting(p, -1), api.ErrPath)
		fails(t, 9, forest(), api.Delete, deleting(p, 5), api.ErrPath)
	}
	for _, version := range []int{-1, 0, 3, 4} {
		fails(t, 9, forest(), api.Delete, deleting("/", version), api.ErrRoot)
		fails(t, 0, root(), api.Delete, deleting("/", version), api.ErrRoot)
		fails(t, 9, forest(), api.Delete, deleting("/b", version), api.ErrNone)
		fails(t, 9, forest(), api.Delete, deleting("/a/b/c", version), api.ErrNone)
	}
	for _, version := range []int{0, 1, 3, -2, math.MinInt32, math.MaxInt32} {
		fails(t, 9, forest(), api.Delete, deleting("/a", version), api.ErrVersion) // which is a parent too
	}
	for _, version := range []int{1, -2, math.MinInt32, math.MaxInt32} {
		fails(t, 9, forest(), api.Delete, deleting("/a/b", version), api.ErrVersion)
	}
	for _, version := range []int{-1, 2} {
		fails(t, 9, forest(), api.Delete, deleting("/a", version), api.ErrChildren)
	}
}

// A node is not the parent of one whose name merely begins with its own.
func TestDeleteBesideLongerNames(t *testing.T) {
	for _, p := range []string{"/ab", "/a.", "/a-/b"} {
		nodes := append(root(), node{Path: "/a"})
		if p == "/a-/b" {
			nodes = append(nodes, node{Path: "/a-"})
		}
		c := greeted(t, serverOf(t, 0, append(nodes, node{Path: p})), 1)
		c.ask(api.List, looking("/a", noWatch), 0, names())
		c.ask(api.Delete, deleting("/a", 0), 1, "")
	}
}

func TestErrorsOfSet(t *testing.T) {
	for _, p := range wrongPaths {
		fails(t, 9, forest(), api.Set, setting(p, "", -1), api.ErrPath)
		fails(t, 9, forest(), api.Set, setting(p, overData, 5), api.ErrPath)
	}
	for _, p := range []string{"/", "/a", "/b"} {
		for _, version := range []int{-1, 0, 2, 3} {
			fails(t, 9, forest(), api.Set, setting(p, overData, version), api.ErrData)
			fails(t, 9, forest(), api.Set, setting(p, strings.Repeat("x", api.MaxBytes), version), api.ErrData)
		}
	}
	for _, version := range []int{-1, 0, 1} {
		fails(t, 9, forest(), api.Set, setting("/b", fullData, version), api.ErrNone)
		fails(t, 9, forest(), api.Set, setting("/a/c", "", version), api.ErrNone)
	}
	for _, version := range []int{0, 1, 3, -2, math.MinInt32, math.MaxInt32} {
		fails(t, 9, forest(), api.Set, setting("/a", "", version), api.ErrVersion)
	}
	fails(t, 9, forest(), api.Set, setting("/c", "", 0), api.ErrVersion)
	fails(t, 9, forest(), api.Set, setting("/c", "", math.MaxInt32-1), api.ErrVersion)
}

func TestErrorsOfGetExistsList(t *testing.T) {
	for _, kind := range []int{api.Get, api.Exists, api.List} {
		for _, w := range []string{noWatch, watch} {
			for _, p := range wrongPaths {
				fails(t, 9, forest(), kind, looking(p, w), api.ErrPath)
			}
			for _, p := range []string{"/b", "/a/a", "/a/b/c", fullPath} {
				fails(t, 9, forest(), kind, looking(p, w), api.ErrNone)
			}
		}
	}
}

// All requests of some paths, data, notes and versions, each on trees that are the same ahead of it: against the model.
func TestAllRequestsOnSomeTrees(t *testing.T) {
	for _, nodes := range [][]node{root(), forest(), full(), full()[:api.MaxNodes-1]} {
		for version := 1; version <= api.Newest; version++ {
			for _, frame := range manyRequests(version) {
				d, _ := api.NewDisk()
				d.Append("snapshot", fileOf(2, 9, nodes))
				p := pairOn(t, d, &model{number: 9, nodes: slices.Clone(nodes)})
				n := p.connect()
				p.feed(n, counted(four(version)))
				p.feed(n, frame)
				p.mustBeSame()
			}
		}
	}
}

func manyRequests(version int) []string {
	var l []string
	add := func(kind int, fields string) { l = append(l, request(kind, len(l), fields)) }
	for _, p := range []string{"", "a", "/", "/a", "/a/b", "/a/z", "/c", "/z", "/z/z", "/a/", fullPath, overPath} {
		for _, data := range []string{"", "x", fullData, overData} {
			for _, note := range []string{"", fullNote, overNote} {
				if version == 2 {
					add(api.Create, making(p, data, note))
				}
			}
			if version == 1 {
				add(api.Create, making1(p, data))
			}
			for _, v := range []int{-2, -1, 0, 1, 2, 3, math.MaxInt32} {
				add(api.Set, setting(p, data, v))
			}
		}
		for _, v := range []int{-2, -1, 0, 1, 2, 3, math.MaxInt32} {
			add(api.Delete, deleting(p, v))
		}
		for _, kind := range []int{api.Get, api.Exists, api.List} {
			add(kind, looking(p, noWatch))
			add(kind, looking(p, watch))
		}
	}
	return l
}

// pair: a server and a model that are sent the same.
type pair struct {
	t *testing.T
	s *orchard.Server
	m *model
}

func pairOn(t *testing.T, d *api.Disk, m *model) *pair {
	t.Helper()
	return &pair{t, serverOn(t, d), m}
}

func newPair(t *testing.T) *pair { return &pair{t, newServer(t), newModel()} }

func (p *pair) connect() int {
	p.t.Helper()
	p.m.connect()
	return connect(p.t, p.s).n
}

func (p *pair) close(n int) {
	p.t.Helper()
	p.m.close(n)
	if e := p.s.Close(n); e != api.OK {
		p.t.Fatalf("P12: Close(%d) = %d", n, e)
	}
}

// feed sends the same to both; to the server in these pieces.
func (p *pair) feed(n int, pieces ...string) {
	p.t.Helper()
	for _, b := range pieces {
		if e := p.s.Feed(n, []byte(b)); e != api.OK {
			p.t.Fatalf("P13: Feed(%d, %.200x) = %d", n, b, e)
		}
	}
	p.m.feed(n, strings.Join(pieces, ""))
}

// mustBeSame holds all that came out, and the trees, against each other.
func (p *pair) mustBeSame() {
	p.t.Helper()
	for i := range p.m.sessions {
		want := p.m.take(i + 1)
		if b, _ := p.s.Take(i + 1); string(b) != want {
			p.t.Fatalf("P13, P14: what came out for session %d is %.400x, want %.400x", i+1, b, want)
		}
	}
	mustTree(p.t, p.s, p.m.number, p.m.tree())
}
